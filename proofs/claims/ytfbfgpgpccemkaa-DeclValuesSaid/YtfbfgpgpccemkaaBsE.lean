/- decl.things as an iterator, decl.upTo at every place of a slice of tokens that is not too long. -/
import Derived.Test.YtfbfgpgpccemkaaRsSkip
import Derived.Test.YtfbfgpgpccemkaaBsA
import Derived.Test.YtfbfgpgpccemkaaBsB
import Derived.RangeFuncBox
namespace Go.Proofs.Ytfbfgpgpccemkaa.Dc
open Go Go.RowKit Go.Shelf
attribute [local go_sem] Oper.semAt_some

/-! ### where things begin -/
def startsF (ks : List Int) : Nat → Nat → List Nat
  | 0, _ => []
  | f + 1, i => if i < ks.length then i :: startsF ks f (i + run [] (ks.drop i)) else []
def starts (ks : List Int) (i : Nat) : List Nat := startsF ks (ks.length - i) i
theorem run_drop_pos {ks : List Int} {i : Nat} (h : i < ks.length) : 0 < run [] (ks.drop i) := by
  rw [List.drop_eq_getElem_cons h]
  exact run_pos _ _ _
theorem run_drop_le (ks : List Int) (i : Nat) : run [] (ks.drop i) ≤ ks.length - i := by
  have := run_le [] (ks.drop i)
  rwa [List.length_drop] at this
theorem startsF_more (ks : List Int) : ∀ (f g i : Nat), ks.length - i ≤ f → ks.length - i ≤ g → startsF ks f i = startsF ks g i
  | 0, 0, _, _, _ => rfl
  | 0, g + 1, i, hf, _ => by rw [startsF, startsF, if_neg (by omega)]
  | f + 1, 0, i, _, hg => by rw [startsF, startsF, if_neg (by omega)]
  | f + 1, g + 1, i, hf, hg => by
    rw [startsF, startsF]
    by_cases h : i < ks.length
    · have := run_drop_pos h
      rw [if_pos h, if_pos h, startsF_more ks f g _ (by omega) (by omega)]
    · rw [if_neg h, if_neg h]
theorem starts_in {ks : List Int} {i : Nat} (h : i < ks.length) : starts ks i = i :: starts ks (i + run [] (ks.drop i)) := by
  have := run_drop_pos h
  unfold starts
  rw [show ks.length - i = (ks.length - i - 1) + 1 by omega, startsF, if_pos h, startsF_more ks _ (ks.length - (i + run [] (ks.drop i))) _ (by omega) (Nat.le_refl _)]
theorem starts_out {ks : List Int} {i : Nat} (h : ks.length ≤ i) : starts ks i = [] := by
  unfold starts
  rw [show ks.length - i = 0 by omega]
  rfl
def kd (ks : List Int) (x : Nat) : Int := (ks[x]?).getD 0
theorem upto_starts (p : Int → Bool) (ks : List Int) : ∀ (n i : Nat), ks.length - i ≤ n → i ≤ ks.length → i + upto p (ks.drop i) = ((starts ks i).find? fun x => p (kd ks x)).getD ks.length
  | 0, i, hn, hi => by
    have e : i = ks.length := by omega
    rw [starts_out (by omega), List.drop_eq_nil_iff.2 (by omega), upto_nil, e]
    rfl
  | n + 1, i, hn, hi => by
    by_cases h : i < ks.length
    · have hp := run_drop_pos h
      have hl := run_drop_le ks i
      have ih := upto_starts p ks n (i + run [] (ks.drop i)) (by omega) (by omega)
      rw [starts_in h, List.find?_cons]
      have hk : kd ks i = ks[i] := by simp [kd, h]
      have hd := List.drop_eq_getElem_cons h
      cases hc : p ks[i] with
      | true =>
        rw [hk, hc, hd, upto_cons, hc]
        simp
      | false =>
        rw [hk, hc]
        show _ = ((starts ks (i + run [] (ks.drop i))).find? fun x => p (kd ks x)).getD ks.length
        rw [← ih, ← List.drop_drop]
        conv => lhs; rw [hd, upto_cons, hc, if_neg (by decide), ← hd]
        omega
    · have e : i = ks.length := by omega
      rw [starts_out (by omega), List.drop_eq_nil_iff.2 (by omega), upto_nil, e]
      rfl

/-! ### the iterator -/
theorem grown_of_below' {w w' : World} (h : Below w.heap.size w w') (row : Option Nat) : w.grownBy w' row := ⟨h.os, h.tape, h.output, h.size, fun i hi _ => h.block i hi⟩

set_option maxRecDepth 100000 in
set_option maxHeartbeats 2000000 in
theorem things1_in (n l Bi Bv n₀ : Nat) (v : Value) (ts : List Bt) (i : Nat) (J Jx : List Nat → World → Prop) (W : World) (_hBi : Bi < n₀) (hBv : Bv < n₀) (hn₀ : n₀ ≤ W.heap.size)
    (hJ : AbidesIn W.heap.size W.heap.size J)
    (hY : ∀ pre x W1, J pre W1 → (∃ rest, pre ++ x :: rest = starts (kds ts) i) → W.heap.size ≤ W1.heap.size → YieldAt Fence.wide (n - 1) Try.prog l #[.int .i64 (x : Nat)] W1 fun e W' => (e = .returned (.bool true) ∧ J (pre ++ [x]) W' ∧ Below n₀ W1 W') ∨ (e = .returned (.bool false) ∧ Jx (pre ++ [x]) W'))
    (hci : W.cell? ⟨Bi, 0, none⟩ = some (.int .i64 i)) (hcv : W.cell? ⟨Bv, 0, none⟩ = some v) (hv : BtsAt n₀ W v ts) (hi : i ≤ ts.length) (hl : ts.length ≤ 1000000) (h0 : J [] W) :
    CallsIn Fence.wide n Try.prog 46 #[.func (.yield l) #[] #[], .pointer (some ⟨Bi, 0, none⟩), .pointer (some ⟨Bv, 0, none⟩)] W fun e W' => (∃ v, e = .returned v) ∧ ((∃ xs, xs = starts (kds ts) i ∧ J xs W') ∨ (∃ pre, True ∧ Jx pre W')) := by
  obtain ⟨p, cap, rfl⟩ := hv.len
  refine callsIn_of_wp Try.func46 rfl trivial ?_ rfl
  simp only [Try.ntmps46, List.size_toArray, List.length_cons, List.length_nil, Nat.reduceAdd, Nat.reduceSub, Array.replicate_succ, Array.replicate_zero, List.push_toArray, List.append_toArray, List.nil_append, List.cons_append]
  gi_wp2
  gi_loopw [4] (fun x wr => ∃ (k : Nat) (pre : List Nat), x = .int .i64 k ∧ k ≤ ts.length ∧ starts (kds ts) i = pre ++ starts (kds ts) k ∧ J pre wr ∧ Below n₀ W wr) (fun x _ => ts.length - (intOf x).toNat)
  case atStart => exact ⟨i, [], rfl, hi, rfl, h0, Below.refl _ _⟩
  case round =>
    clear hci
    obtain ⟨k, pre, rfl, hk, hx, hJs, hb⟩ := hrel
    have hcv' := (hb.cell (p := ⟨Bv, 0, none⟩) hBv).trans hcv
    have hkl := kds_length ts
    by_cases hlt : k < ts.length
    · have hki : (k : Int) < (ts.length : Int) := by omega
      have hst := starts_in (ks := kds ts) (i := k) (by omega)
      have hrp := run_drop_pos (ks := kds ts) (i := k) (by omega)
      have hrl := run_drop_le (kds ts) k
      obtain ⟨fn, tmps, assign, body, hy, hR⟩ := hY pre k wr hJs ⟨_, by rw [hx, hst]⟩ hb.size
      have HX : Hid (starts (kds ts) i = (pre ++ [k]) ++ starts (kds ts) (k + run [] ((kds ts).drop k))) := by
        show _ = _
        rw [hx, hst]
        simp
      clear hx hst hY
      gi_wp2_with fail
      refine ⟨fun h => (by cases h), hR.mono ?_⟩
      rintro e w2 (⟨rfl, hJ2, hb2⟩ | ⟨rfl, hJ2⟩)
      · have hcv2 := (hb2.cell (p := ⟨Bv, 0, none⟩) hBv).trans hcv'
        have hB2 := hb.trans hb2
        have hsk := skip_in (.slice p ts.length cap) ts k w2 ((hv.below hB2).mono (Nat.le_trans hn₀ hB2.size)) hlt hl
        generalize run [] ((kds ts).drop k) = m at *
        gi_wp2_with fail
        refine ⟨trivial, fun h => (by cases h), ?_⟩
        refine (callsIn_wide.2 hsk).mono ?_
        clear hsk
        rintro e w3 ⟨rfl, hb3⟩
        have hJ3 : J (pre ++ [k]) w3 := hJ _ w2 w3 none hJ2 (grown_of_below' hb3 none) (fun _ e => by cases e)
        gi_wp2
        go_roundw
        case rel => exact ⟨k + m, pre ++ [k], rfl, by omega, HX, hJ3, hB2.trans (hb3.mono (Nat.le_trans hn₀ hB2.size))⟩
        case measure => simp [intOf]; omega
      · gi_wp2
        refine bodyPost_ret (results_none rfl _ _ _) rfl ?_
        exact ⟨⟨_, rfl⟩, .inr ⟨_, trivial, hJ2⟩⟩
    · have hki : ¬ (k : Int) < (ts.length : Int) := by omega
      have e : starts (kds ts) i = pre := by rw [hx, starts_out (by omega), List.append_nil]
      have HE : Hid (_ = _) := e
      clear hx e
      gi_wp2
      go_end0
      refine ⟨⟨_, rfl⟩, .inl ?_⟩
      first
        | exact ⟨pre, (show _ = _ from HE).symm, hJs⟩
        | (rw [show starts (kds ts) i = pre from HE]; exact hJs)

theorem things_in (n : Nat) (v : Value) (i : Int) (w : World) (hv : v.oneCell' = true) :
    CallsIn Fence.wide n Try.prog 26 #[v, .int .i64 i] w fun e w' => e = .returned (.func (.func 46) #[] #[.pointer (some ⟨w.heap.size + 1, 0, none⟩), .pointer (some ⟨w.heap.size, 0, none⟩)]) ∧ w' = (w.alloc (.cells #[v] 22)).alloc (.cells #[.int .i64 i] 3) := by
  refine callsIn_of_wp Try.func26 rfl trivial ?_ rfl
  simp only [Try.ntmps26, List.size_toArray, List.length_cons, List.length_nil, Nat.reduceAdd, Nat.reduceSub, Array.replicate_succ, Array.replicate_zero, List.push_toArray, List.append_toArray, List.nil_append, List.cons_append]
  gi_wp2
  go_ret
  exact ⟨rfl, rfl⟩

theorem things_seq (n Bi Bv n₀ : Nat) (v : Value) (ts : List Bt) (i : Nat) (w : World) (hBi : Bi < n₀) (hBv : Bv < n₀) (hn₀ : n₀ ≤ w.heap.size)
    (hci : w.cell? ⟨Bi, 0, none⟩ = some (.int .i64 i)) (hcv : w.cell? ⟨Bv, 0, none⟩ = some v) (hv : BtsAt n₀ w v ts) (hi : i ≤ ts.length) (hl : ts.length ≤ 1000000) :
    SeqZ Fence.wide n Try.prog 46 #[.pointer (some ⟨Bi, 0, none⟩), .pointer (some ⟨Bv, 0, none⟩)] (fun x : Nat => #[.int .i64 x]) n₀ (fun xs => xs = starts (kds ts) i) (fun _ => True) (fun pre x => ∃ rest, pre ++ x :: rest = starts (kds ts) i) 0 w := fun l J Jx W hW hJ _ hY h0 =>
  things1_in n l Bi Bv n₀ v ts i J Jx W hBi hBv (Nat.le_trans hn₀ hW.size) hJ
    (fun pre x W1 h1 h2 h3 => (hY pre x W1 h1 h2 h3).mono (fun _ _ h => h.elim (fun h => .inl ⟨h.1, h.2.1, h.2.2.below⟩) (fun h => .inr h)))
    ((hW.cell (p := ⟨Bi, 0, none⟩) (by simp; omega)).trans hci) ((hW.cell (p := ⟨Bv, 0, none⟩) (by simp; omega)).trans hcv) (hv.below (hW.mono hn₀)) hi hl h0

/-! ### is a kind among those that are looked for? -/
set_option maxRecDepth 100000 in
set_option maxHeartbeats 1000000 in
theorem index_any (v : Value) (l : List Int) (x : Int) (w : World) (hv : IntsAt w.heap.size w v l) (hl : l.length ≤ 1000000) :
    Calls Try.prog 47 #[v, .int .i64 x] w fun e w' => (∃ r : Int, e = .returned (.int .i64 r) ∧ decide (0 ≤ r) = l.contains x) ∧ w' = w := by
  obtain ⟨p, cap, rfl⟩ := hv.len
  obtain ⟨B, hB⟩ : ∃ B, l.contains x = B := ⟨_, rfl⟩
  rw [hB]
  go_enter Try.func47, Try.ntmps47
  go_wp2
  go_loopw [8] (fun y wr => ∃ k : Nat, y = .int .i64 k ∧ k ≤ l.length ∧ (l.take k).contains x = false ∧ wr = w) (fun y _ => l.length - (intOf y).toNat)
  case atStart => exact ⟨0, rfl, Nat.zero_le _, rfl, rfl⟩
  case round =>
    obtain ⟨k, rfl, hk, hn, rfl⟩ := hrel
    by_cases hlt : k < l.length
    · have hki : (k : Int) < (l.length : Int) := by omega
      obtain ⟨bk, off, hp, hcell⟩ : ∃ bk off, p = some ⟨bk, off, none⟩ ∧ ∀ j u, l[j]? = some u → wr.cell? ⟨bk, off + j, none⟩ = some (.int .i64 u) := by
        rcases hv with ⟨rfl, _⟩ | ⟨bk, off, c, e, _, _, _, h⟩
        · simp at hlt
        · cases e; exact ⟨bk, off, rfl, h⟩
      subst hp
      have c0 := hcell k _ (List.getElem?_eq_getElem hlt)
      by_cases hx : x = l[k]
      · have hin : l.contains x = true := by rw [hx]; simp
        obtain rfl : B = true := hB.symm.trans hin
        clear hcell hv hn hB hin
        generalize l[k] = u at *
        subst hx
        go_wp2
        go_ret
        exact ⟨⟨_, rfl, by simp⟩, rfl⟩
      · have hx' : (x == l[k]) = false := by simpa using hx
        have HN : Hid ((l.take (k + 1)).contains x = false) := by
          show _ = _
          rw [List.take_succ_eq_append_getElem hlt]
          simp only [List.contains_eq_any_beq, List.any_append, List.any_cons, List.any_nil, Bool.or_false] at hn ⊢
          rw [hn, Bool.false_or]
          exact hx'
        have HB : Hid (l.contains x = B) := hB
        clear hcell hv hn hB
        generalize l[k] = u at *
        go_wp2
        exact ⟨⟨k + 1, by go_num, by omega, HN, by first | rfl | trivial⟩, by simp [intOf]; omega⟩
    · have hki : ¬ (k : Int) < (l.length : Int) := by omega
      rw [List.take_of_length_le (by omega)] at hn
      obtain rfl : B = false := hB.symm.trans hn
      clear hn hv hB
      go_wp2
      go_ret
      exact ⟨⟨-1, rfl, by decide⟩, rfl⟩
theorem contains_any (v : Value) (l : List Int) (x : Int) (w : World) (hv : IntsAt w.heap.size w v l) (hl : l.length ≤ 1000000) :
    Calls Try.prog 27 #[v, .int .i64 x] w fun e w' => e = .returned (.bool (l.contains x)) ∧ w' = w := by
  have h := index_any v l x w hv hl
  obtain ⟨p, cap, rfl⟩ := hv.len
  generalize l.contains x = B at *
  go_enter Try.func27, Try.ntmps27
  go_wp2_with fail
  refine h.mono ?_
  rintro e w' ⟨⟨r, rfl, hr⟩, rfl⟩
  subst hr
  go_wp2
  go_ret
  exact ⟨rfl, rfl⟩

end Go.Proofs.Ytfbfgpgpccemkaa.Dc

/- decl.upTo at every place of a slice of tokens that is not too long. -/
namespace Go.Proofs.Ytfbfgpgpccemkaa.Dc
open Go Go.RowKit Go.Shelf
attribute [local go_sem] Oper.semAt_some

theorem below_drew {n₀ : Nat} {a b : World} (h : Below n₀ a b) : Below n₀ a b.drew := ⟨h.os, h.tape, h.output, h.size, h.block⟩
theorem grown_drew1 {a b : World} {row : Option Nat} (h : a.grownBy b row) : a.grownBy b.drew row := ⟨h.os, h.tape, h.output, h.size, h.block⟩
/-- An int as a result, out of its cell. -/
theorem results_cell_int {fn : Func} {p : Tmp} (h : fn.results = #[.cell p 3]) (tmps : Array Value) (W : World) (g : Nat) (v : Value) (hp : tmps.getD p undef = .pointer (some ⟨g, 0, none⟩)) (hc : W.cell? ⟨g, 0, none⟩ = some v) : (results fn tmps).run Try.prog W = .ok v W := by
  have hp' : tmps[p]?.getD undef = .pointer (some ⟨g, 0, none⟩) := by simpa using hp
  have hl : (loadVar 3 ⟨g, 0, none⟩).run Try.prog W = .ok v W := by
    simp [loadVar, isAgg, Sem.run_bind, Result.andThen, load, hc, Sem.run]
  simp [results, h, hp', asAddr, hl]
theorem egThg : ∀ args w, (callFunc 46 args).run Try.prog w = .ok (.enter 46 args) w := enters_of Try.func46 (by kernel_rfl) rfl
theorem find_none {p : Nat → Bool} {l : List Nat} (h : ∀ x ∈ l, p x = false) : l.find? p = none := by
  rw [List.find?_eq_none]
  intro x hx e
  rw [h x hx] at e
  cases e
theorem find_here {p : Nat → Bool} : ∀ {a : List Nat} {x : Nat} {b : List Nat}, (∀ y ∈ a, p y = false) → p x = true → (a ++ x :: b).find? p = some x
  | [], x, b, _, hx => by rw [List.nil_append, List.find?_cons, hx]
  | y :: a, x, b, h, hx => by
    rw [List.cons_append, List.find?_cons, h y (List.mem_cons_self ..)]
    exact find_here (fun z hz => h z (List.mem_cons_of_mem _ hz)) hx
theorem starts_mem {ks : List Int} : ∀ (n i : Nat), ks.length - i ≤ n → ∀ x ∈ starts ks i, x < ks.length
  | 0, i, hn => by
    rw [starts_out (by omega)]
    simp
  | n + 1, i, hn => by
    by_cases h : i < ks.length
    · have hp := run_drop_pos h
      rw [starts_in h]
      intro x hx
      rcases List.mem_cons.1 hx with rfl | hx
      · exact h
      · exact starts_mem n _ (by omega) x hx
    · rw [starts_out (by omega)]
      simp

set_option maxRecDepth 100000 in
set_option maxHeartbeats 4000000 in
theorem upTo_all (n : Nat) (hn : 1 ≤ n) (v kv : Value) (ts : List Bt) (l : List Int) (i : Nat) (w : World) (hv : BtsAt w.heap.size w v ts) (hk : IntsAt w.heap.size w kv l) (hi : i ≤ ts.length) (hl : ts.length ≤ 1000000) (hll : l.length ≤ 1000000) :
    CallsIn Fence.wide n Try.prog 18 #[v, .int .i64 i, kv] w fun e w' => e = .returned (.int .i64 ((i + upto (fun x => l.contains x) ((kds ts).drop i) : Nat) : Int)) ∧ Below w.heap.size w w' := by
  have hU := upto_starts (fun x => l.contains x) (kds ts) (kds ts).length i (by omega) (by rw [kds_length]; omega)
  obtain ⟨T, hT⟩ : ∃ T : Nat, i + upto (fun x => l.contains x) ((kds ts).drop i) = T := ⟨_, rfl⟩
  rw [hT] at hU ⊢
  clear hT
  obtain ⟨p, cap, rfl⟩ := hv.len
  obtain ⟨pk, ck, rfl⟩ := hk.len
  refine callsIn_of_wp_marks Try.func18 rfl trivial ?_ rfl
  simp only [Try.ntmps18, List.size_toArray, List.length_cons, List.length_nil, Nat.reduceAdd, Nat.reduceSub, Array.replicate_succ, Array.replicate_zero, List.push_toArray, List.append_toArray, List.nil_append, List.cons_append]
  obtain ⟨w3, hw3⟩ : ∃ w3, ((w.alloc (.cells #[.slice p ts.length cap] 22)).alloc (.cells #[.slice pk l.length ck] 47)).alloc (.cells #[.int .i64 0] 3) = w3 := ⟨_, rfl⟩
  have hs3 : w3.heap.size = w.heap.size + 3 := by rw [← hw3]; simp
  have hB3 : Below w.heap.size w w3 := by rw [← hw3]; exact (((Below.refl _ w).alloc (Nat.le_refl _) _).alloc (by simp) _).alloc (by simp; omega) _
  have bT3 : Boxed w3 w.heap.size 22 (.slice p ts.length cap) := by rw [← hw3]; exact ((Boxed.new _ _ _).alloc _).alloc _
  have bK3 : Boxed w3 (w.heap.size + 1) 47 (.slice pk l.length ck) := by
    rw [← hw3]
    have := (Boxed.new (w.alloc (.cells #[.slice p ts.length cap] 22)) 47 (.slice pk l.length ck)).alloc (.cells #[.int .i64 0] 3)
    rwa [World.size_alloc] at this
  have bR3 : Boxed w3 (w.heap.size + 2) 3 (.int .i64 0) := by
    rw [← hw3]
    have := Boxed.new ((w.alloc (.cells #[.slice p ts.length cap] 22)).alloc (.cells #[.slice pk l.length ck] 47)) 3 (.int .i64 0)
    rwa [World.size_alloc, World.size_alloc] at this
  have cT3 := bT3.cell
  gi_wp2_with fail
  refine ⟨trivial, ?_⟩
  clear hw3 cT3
  have hth := fun m => things_in m (.slice p ts.length cap) i w3 rfl
  rw [hs3] at hth
  refine (hth _).mono ?_
  clear hth
  rintro e w4 ⟨rfl, hw5⟩
  obtain ⟨w5, rfl⟩ : ∃ w5, w5 = w4 := ⟨_, rfl⟩
  have hs5 : w5.heap.size = w.heap.size + 5 := by rw [hw5]; simp; omega
  have hB5 : Below w3.heap.size w3 w5 := by rw [hw5]; exact ((Below.refl _ w3).alloc (Nat.le_refl _) _).alloc (by simp) _
  have bT5 := bT3.kept (grown_of_below' hB5 none) (by simp)
  have bK5 := bK3.kept (grown_of_below' hB5 none) (by simp)
  have bR5 := bR3.kept (grown_of_below' hB5 none) (by simp)
  have bV5 : Boxed w5 (w.heap.size + 3) 22 (.slice p ts.length cap) := by
    rw [hw5]
    have := (Boxed.new w3 22 (.slice p ts.length cap)).alloc (.cells #[.int .i64 i] 3)
    rwa [hs3] at this
  have bI5 : Boxed w5 (w.heap.size + 4) 3 (.int .i64 i) := by
    rw [hw5]
    have := Boxed.new (w3.alloc (.cells #[.slice p ts.length cap] 22)) 3 (.int .i64 i)
    rwa [World.size_alloc, hs3] at this
  have hBB : Below w.heap.size w w5 := hB3.trans (hB5.mono hB3.size)
  clear hw5 hB5 bT3 bK3 bR3 hB3 hs3 w3
  have hseq := things_seq (n - 1) (w.heap.size + 4) (w.heap.size + 3) (w.heap.size + 5) (.slice p ts.length cap) ts i w5 (by omega) (by omega) (by omega) bI5.cell bV5.cell ((hv.below hBB).mono (by omega)) hi hl
  gi_wp2_with fail
  have hmem := starts_mem (ks := kds ts) _ i (Nat.le_refl _)
  rw [kds_length] at hmem hU
  refine wpIn_rangeFunc_Z rfl hn (gf := 46) (lb := #[.pointer (some ⟨w.heap.size + 4, 0, none⟩), .pointer (some ⟨w.heap.size + 3, 0, none⟩)]) rfl trivial egThg hseq (by omega) (Below.refl _ _) (fun _ => rfl)
    (fun pre X => (∀ x ∈ pre, l.contains (kd (kds ts) x) = false) ∧ Boxed X w.heap.size 22 (.slice p ts.length cap) ∧ Boxed X (w.heap.size + 1) 47 (.slice pk l.length ck) ∧ Boxed X (w.heap.size + 2) 3 (.int .i64 0) ∧ Below w.heap.size w X)
    (fun _ X => Boxed X (w.heap.size + 2) 3 (.int .i64 T) ∧ Below w.heap.size w X)
    ?hI ?hIx ⟨fun _ h => (by cases h), bT5, bK5, bR5, hBB⟩
    (fun x => { tmps := #[.slice p ts.length cap, .int .i64 i, .slice pk l.length ck, .pointer (some ⟨w.heap.size, 0, none⟩), undef, .pointer (some ⟨w.heap.size + 1, 0, none⟩), .pointer (some ⟨w.heap.size + 2, 0, none⟩), .int .i64 x, .slice p ts.length cap, .int .i64 i, .func (.func 46) #[] #[.pointer (some ⟨w.heap.size + 4, 0, none⟩), .pointer (some ⟨w.heap.size + 3, 0, none⟩)], .int .i64 x, undef, undef, undef, undef, undef, undef, undef, undef, undef, undef], defers := [] }) ?assign ?body ?done ?stop
  case hI =>
    rintro s X Y row ⟨h1, h2, h3, h4, h5⟩ hg hr
    have far : ∀ b, b < w.heap.size + 5 → some b ≠ row := fun b hb e => by have := hr b e.symm; omega
    exact ⟨h1, h2.kept hg (far _ (by omega)), h3.kept hg (far _ (by omega)), h4.kept hg (far _ (by omega)), h5.grown hg h5.size (fun r e => by have := hr r e; omega)⟩
  case hIx =>
    rintro s X Y row ⟨h4, h5⟩ hg hr
    have far : ∀ b, b < w.heap.size + 5 → some b ≠ row := fun b hb e => by have := hr b e.symm; omega
    exact ⟨h4.kept hg (far _ (by omega)), h5.grown hg h5.size (fun r e => by have := hr r e; omega)⟩
  case assign =>
    intro l x X K hK
    gi_wp2
    exact hK
  case body =>
    rintro l' pre x X ⟨h1, h2, h3, h4, h5⟩ ⟨rest, hok⟩ hsz
    have hxm : x < ts.length := hmem x (by rw [← hok]; simp)
    have hxi : (x : Int) < (ts.length : Int) := by omega
    have c2 := h2.cell
    have c3 := h3.cell
    have c4 := h4.cell
    have f4 := h4.frozen
    obtain ⟨bk, off, rfl, hbk, _, _, hc, _⟩ := (hv.below h5).get (List.getElem?_eq_getElem hxm)
    have hkd : kd (kds ts) x = ts[x].kind := by simp [kd, kds, hxm]
    have hcon := fun W (hb : Below w.heap.size w W) => contains_any (.slice pk l.length ck) l ts[x].kind W ((hk.below hb).mono hb.size) hll
    rw [← hkd] at hcon hc
    clear hkd
    have hfo := follows
    cases hB : l.contains (kd (kds ts) x) with
    | true =>
      have hTx : T = x := by rw [hU, ← hok, find_here (fun y hy => h1 y hy) hB]; rfl
      rw [hB] at hcon
      generalize kd (kds ts) x = kx at *
      have FIN : Hid (∀ Z, (X.setCell ⟨w.heap.size + 2, 0, none⟩ (.int .i64 x)).grownBy Z none → KeepsIn 0 w5.heap.size (w5.heap.size + 2 + 0) X Z ∧ Boxed Z (w.heap.size + 2) 3 (.int .i64 T) ∧ Below w.heap.size w Z) := fun Z g => by
        have g2 := grownBy_setCell' X (w.heap.size + 2) (.int .i64 x)
        have hs1 := h5.size
        have hs2 := g2.size
        have b1 := (Below.refl 0 X).grown g2 (Nat.zero_le _) (fun r e => Nat.zero_le _)
        refine ⟨⟨b1.grown g (Nat.zero_le _) (fun r e => Nat.zero_le _), fun r r1 r2 => ?_⟩, ?_, ?_⟩
        · rw [g.block r (by omega) (by simp)]
          exact g2.block r (by omega) (by simp; omega)
        · rw [hTx]
          exact (h4.set _).kept g (by simp)
        · exact (h5.grown g2 h5.size (fun r e => by cases e; omega)).grown g (by omega) (fun r e => by cases e)
      clear hseq hU hTx hok
      gi_wp2_with fail
      gi_region_with_o (refine ⟨trivial, fun h => (by cases h), ?_⟩; gi_at_call 27; refine (CallsIn.inRound l' (callsIn_wide.2 (hcon _ (by repeat (first | exact h5 | apply below_drew))))).mono ?_; rintro e w' ⟨rfl, rfl⟩)
      all_goals gi_wp2
      all_goals refine (show _ from FIN) _ ?_
      all_goals repeat (first | exact World.grownBy.refl _ _ | apply grown_drew1)
    | false =>
      rw [hB] at hcon
      have FIN : Hid (∀ Y, X.grownBy Y none → KeepsIn (w.heap.size + 5) w5.heap.size (w5.heap.size + 2 + 0) X Y ∧ (∀ y ∈ pre ++ [x], l.contains (kd (kds ts) y) = false) ∧ Boxed Y w.heap.size 22 (.slice (some ⟨bk, off, none⟩) ts.length cap) ∧ Boxed Y (w.heap.size + 1) 47 (.slice pk l.length ck) ∧ Boxed Y (w.heap.size + 2) 3 (.int .i64 0) ∧ Below w.heap.size w Y) := fun Y g => by
        refine ⟨KeepsIn.of_grownBy g (by omega) (by omega) (fun r e => by cases e), fun y hy => ?_, h2.kept g (by simp), h3.kept g (by simp), h4.kept g (by simp), h5.grown g h5.size (fun r e => by cases e)⟩
        rcases List.mem_append.1 hy with hy | hy
        · exact h1 y hy
        · obtain rfl : y = x := by simpa using hy
          exact hB
      clear hB
      generalize kd (kds ts) x = kx at hc hcon
      clear hseq hU hok
      gi_wp2_with fail
      gi_region_with_o (refine ⟨trivial, fun h => (by cases h), ?_⟩; gi_at_call 27; refine (CallsIn.inRound l' (callsIn_wide.2 (hcon _ (by repeat (first | exact h5 | apply below_drew))))).mono ?_; rintro e w' ⟨rfl, rfl⟩)
      all_goals gi_wp2
      all_goals refine (show _ from FIN) _ ?_
      all_goals repeat (first | exact World.grownBy.refl _ _ | apply grown_drew1)
  case done =>
    rintro ys X rfl ⟨h1, h2, h3, h4, h5⟩ hK
    have hTl : T = ts.length := by rw [hU, find_none (fun y hy => h1 y hy)]; rfl
    have c2 := h2.cell
    have c4 := h4.cell
    have f4 := h4.frozen
    have g2 := grownBy_setCell' X (w.heap.size + 2) (.int .i64 (ts.length : Int))
    have hK2 := (g2.block w5.heap.size (Array.getElem?_eq_some_iff.1 hK).1 (by simp; omega)).trans hK
    have b4 := h4.set (.int .i64 (ts.length : Int))
    have hb4 := h5.grown g2 h5.size (fun r e => by cases e; omega)
    clear hseq hU hmem
    gi_wp2
    refine ⟨by simp, .inl ⟨_, _, rfl, run_takeDeferred hK2, ?_⟩⟩
    have g3 := grownBy_putObj' (X.setCell ⟨w.heap.size + 2, 0, none⟩ (.int .i64 (ts.length : Int))) w5.heap.size (.deferred none)
    have b5 := b4.kept g3 (by simp; omega)
    refine ⟨_, results_cell_int rfl _ _ (w.heap.size + 2) _ rfl b5.cell, by rw [hTl], hb4.grown g3 (by have := hb4.size; omega) (fun r e => by cases e; omega)⟩
  case stop =>
    rintro pre X _ ⟨h4, h5⟩ hK
    clear hseq hU
    gi_wp2
    refine ⟨by simp, .inl ⟨_, _, rfl, run_takeDeferred hK, ?_⟩⟩
    have g3 := grownBy_putObj' X w5.heap.size (.deferred none)
    have b5 := h4.kept g3 (by simp; omega)
    exact ⟨_, results_cell_int rfl _ _ (w.heap.size + 2) _ rfl b5.cell, rfl, h5.grown g3 h5.size (fun r e => by cases e; omega)⟩

end Go.Proofs.Ytfbfgpgpccemkaa.Dc
