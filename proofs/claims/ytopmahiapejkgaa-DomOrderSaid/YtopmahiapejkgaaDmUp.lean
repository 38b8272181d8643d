/- package dom: upward as an iterator, following at every element. -/
import Derived.Test.YtopmahiapejkgaaDmGb
import Derived.Test.YtopmahiapejkgaaDmGa
import Derived.Test.YtopmahiapejkgaaSeqZ
import Derived.RangeFuncBox
import Derived.Shelf.RegionOpen
import Derived.LoopIn
namespace Go.Proofs.Ytopmahiapejkgaa.Dm
open Go Go.RowKit Go.Shelf
attribute [local go_sem] Oper.semAt_some

theorem grown_below {w w' : World} (h : Below w.heap.size w w') (row : Option Nat) : w.grownBy w' row := ⟨h.os, h.tape, h.output, h.size, fun i hi _ => h.block i hi⟩
theorem results_int {fn : Func} {p : Tmp} (h : fn.results = #[.cell p 3]) (tmps : Array Value) (W : World) (g : Nat) (v : Value) (hp : tmps.getD p undef = .pointer (some ⟨g, 0, none⟩)) (hc : W.cell? ⟨g, 0, none⟩ = some v) : (results fn tmps).run Try.prog W = .ok v W := by
  have hp' : tmps[p]?.getD undef = .pointer (some ⟨g, 0, none⟩) := by simpa using hp
  have hl : (loadVar 3 ⟨g, 0, none⟩).run Try.prog W = .ok v W := by
    simp [loadVar, isAgg, Sem.run_bind, Result.andThen, load, hc, Sem.run]
  simp [results, h, hp', asAddr, hl]

set_option maxRecDepth 100000 in
set_option maxHeartbeats 2000000 in
theorem upward1_in (n l Be Bt n₀ b tb g cap : Nat) (qs : List Em) (w₀ : World) (hT : Tr b w₀ tb g cap qs) (hO : TreeOk (qs.map Em.e)) (hl : qs.length ≤ 4096) (k : Nat) (hk : k < qs.length) (J Jx : List Nat → World → Prop) (W : World) (hBt : Bt < n₀) (h0n : w₀.heap.size ≤ n₀) (hW : Below w₀.heap.size w₀ W)
    (hY : ∀ pre x W1, J pre W1 → (∃ rest, pre ++ x :: rest = ups (qs.map Em.e) k) → W.heap.size ≤ W1.heap.size → YieldAt Fence.wide (n - 1) Try.prog l #[.int .i64 (x : Nat)] W1 fun e W' => (e = .returned (.bool true) ∧ J (pre ++ [x]) W' ∧ Below n₀ W1 W') ∨ (e = .returned (.bool false) ∧ Jx (pre ++ [x]) W'))
    (hce : W.cell? ⟨Be, 0, none⟩ = some (.int .i64 k)) (hct : W.cell? ⟨Bt, 0, none⟩ = some (.pointer (some ⟨tb, 0, none⟩))) (h0 : J [] W) :
    CallsIn Fence.wide n Try.prog 41 #[.func (.yield l) #[] #[], .pointer (some ⟨Be, 0, none⟩), .pointer (some ⟨Bt, 0, none⟩)] W fun e W' => (∃ v, e = .returned v) ∧ ((∃ xs, xs = ups (qs.map Em.e) k ∧ J xs W') ∨ (∃ pre, True ∧ Jx pre W')) := by
  refine callsIn_of_wp Try.func41 rfl trivial ?_ rfl
  simp only [Try.ntmps41, List.size_toArray, List.length_cons, List.length_nil, Nat.reduceAdd, Nat.reduceSub, Array.replicate_succ, Array.replicate_zero, List.push_toArray, List.append_toArray, List.nil_append, List.cons_append]
  have HT : Hid (Tr b w₀ tb g cap qs) := hT
  have HO : Hid (TreeOk (qs.map Em.e)) := hO
  have hml : (qs.map Em.e).length = qs.length := List.length_map ..
  clear hT hO
  gi_wp2
  gi_loopw [4] (fun x wr => ∃ pre : List Nat, ((x = .int .i64 (-1) ∧ pre = ups (qs.map Em.e) k) ∨ (∃ j : Nat, x = .int .i64 j ∧ j < qs.length ∧ ups (qs.map Em.e) k = pre ++ ups (qs.map Em.e) j)) ∧ J pre wr ∧ Below n₀ W wr) (fun x _ => (intOf x + 1).toNat)
  case atStart => exact ⟨[], .inr ⟨k, rfl, hk, rfl⟩, h0, Below.refl _ _⟩
  case round =>
    clear hce
    obtain ⟨pre, hx, hJs, hb⟩ := hrel
    have hct' := (hb.cell (p := ⟨Bt, 0, none⟩) hBt).trans hct
    rcases hx with ⟨rfl, hx⟩ | ⟨j, rfl, hj, hx⟩
    · have HX : Hid (pre = _) := hx
      clear hx
      gi_wp2
      refine ⟨fun _ h => (by cases h), ?_⟩
      gi_wp2
      go_end0
      exact ⟨⟨_, rfl⟩, .inl ⟨pre, HX.out, hJs⟩⟩
    · obtain ⟨r, hr⟩ := ups_head (qs.map Em.e) j
      obtain ⟨fn, tmps, assign, body, hy, hR⟩ := hY pre j wr hJs ⟨r, by rw [hx, hr]⟩ hb.size
      have HX : Hid (_ = _) := hx
      have hne : ((j : Int) != -1) = true := by simp [bne]
      clear hx hr hY
      gi_wp2_with fail
      refine ⟨fun h => (by cases h), hR.mono ?_⟩
      rintro e w2 (⟨rfl, hJ2, hb2⟩ | ⟨rfl, hJ2⟩)
      · have hct2 := (hb2.cell (p := ⟨Bt, 0, none⟩) hBt).trans hct'
        have hB2 := hb.trans hb2
        have hT2 := HT.out.next (hW.trans (hB2.mono h0n))
        have c0 := (blk1 hT2.blk).1
        obtain ⟨q, hq⟩ : ∃ q, qs[j]? = some q := ⟨_, List.getElem?_eq_getElem hj⟩
        obtain ⟨x0, _, _, _, _, _, _, _⟩ := hT2.get8 hq
        have hrm := hT2.room
        unfold maxLen at hrm
        have hji : (j : Int) < (qs.length : Int) := by omega
        have hpa := par_at (map_at hq)
        by_cases hj0 : j = 0
        · subst hj0
          have hroot := par_root HO.out (by omega)
          rw [hpa] at hroot
          rw [hroot] at x0
          have HE : Hid (pre ++ [0] = ups (qs.map Em.e) k) := by
            show _ = _
            rw [show ups (qs.map Em.e) k = _ from HX.out, ups_root HO.out (by omega)]
          simp only [Nat.zero_mul] at x0
          clear hT2 hq hpa hroot HX
          gi_wp2
          go_roundw
          case rel => exact ⟨pre ++ [0], .inl ⟨rfl, HE.out⟩, hJ2, hB2⟩
          case measure => simp [intOf]
        · obtain ⟨p, hp, hpj⟩ := par_lt HO.out (e := j) (by omega) (by omega)
          have HE : Hid (ups (qs.map Em.e) k = (pre ++ [j]) ++ ups (qs.map Em.e) p) := by
            show _ = _
            rw [show ups (qs.map Em.e) k = _ from HX.out, ups_eq HO.out (by omega) hp hpj]
            simp
          rw [hpa] at hp
          rw [hp] at x0
          clear hT2 hq hpa hp HX
          gi_wp2
          go_roundw
          case rel => exact ⟨pre ++ [j], .inr ⟨p, rfl, by omega, HE.out⟩, hJ2, hB2⟩
          case measure => simp [intOf]; omega
      · gi_wp2
        go_end0
        exact ⟨⟨_, rfl⟩, .inr ⟨_, trivial, hJ2⟩⟩

set_option maxRecDepth 100000 in
theorem upward_in (n tb : Nat) (i : Int) (w : World) :
    CallsIn Fence.wide n Try.prog 39 #[.pointer (some ⟨tb, 0, none⟩), .int .i64 i] w fun e w' => e = .returned (.func (.func 41) #[] #[.pointer (some ⟨w.heap.size + 1, 0, none⟩), .pointer (some ⟨w.heap.size, 0, none⟩)]) ∧ w' = (w.alloc (.cells #[.pointer (some ⟨tb, 0, none⟩)] 32)).alloc (.cells #[.int .i64 i] 3) := by
  refine callsIn_of_wp Try.func39 rfl trivial ?_ rfl
  simp only [Try.ntmps39, List.size_toArray, List.length_cons, List.length_nil, Nat.reduceAdd, Nat.reduceSub, Array.replicate_succ, Array.replicate_zero, List.push_toArray, List.append_toArray, List.nil_append, List.cons_append]
  gi_wp2
  go_ret
  exact ⟨rfl, rfl⟩

theorem upward_seq (n Be Bt n₀ b tb g cap : Nat) (qs : List Em) (w₀ : World) (hT : Tr b w₀ tb g cap qs) (hO : TreeOk (qs.map Em.e)) (hl : qs.length ≤ 4096) (k : Nat) (hk : k < qs.length) (w : World) (hBe : Be < n₀) (hBt : Bt < n₀) (h0n : w₀.heap.size ≤ n₀) (hn₀ : n₀ ≤ w.heap.size) (hW : Below w₀.heap.size w₀ w)
    (hce : w.cell? ⟨Be, 0, none⟩ = some (.int .i64 k)) (hct : w.cell? ⟨Bt, 0, none⟩ = some (.pointer (some ⟨tb, 0, none⟩))) :
    SeqZ Fence.wide n Try.prog 41 #[.pointer (some ⟨Be, 0, none⟩), .pointer (some ⟨Bt, 0, none⟩)] (fun x : Nat => #[.int .i64 x]) n₀ (fun xs => xs = ups (qs.map Em.e) k) (fun _ => True) (fun pre x => ∃ rest, pre ++ x :: rest = ups (qs.map Em.e) k) 0 w := fun l J Jx W hW' _ _ hY h0 =>
  upward1_in n l Be Bt n₀ b tb g cap qs w₀ hT hO hl k hk J Jx W hBt h0n (hW.trans (hW'.mono hW.size))
    (fun pre x W1 h1 h2 h3 => (hY pre x W1 h1 h2 h3).mono (fun _ _ h => h.elim (fun h => .inl ⟨h.1, h.2.1, h.2.2.below⟩) (fun h => .inr h)))
    ((hW'.cell (p := ⟨Be, 0, none⟩) (by simp; omega)).trans hce) ((hW'.cell (p := ⟨Bt, 0, none⟩) (by simp; omega)).trans hct) h0

end Go.Proofs.Ytopmahiapejkgaa.Dm
