/- For every integer and every truth value: the law tapestrierlaw7.ValueNumbers returns true and leaves its arguments as they were; no condition (its card: the table of words read off the program's text). -/
import Derived.Test.YtghjpefkeobfnabDoorVlAlive
import Derived.Test.YtghjpefkeobfnabDoorVlLaid
namespace Go.Proofs.YtghjpefkeobfnabDoor
open Go Go.ChangeShapes Go.WideShapes Go.ChangeAt Go.RowKit Vl
open Go.ChangeMaps (open_string shut_string)

theorem parseV_num {p : Int} (h : 0 ≤ p ∧ p ≤ 7) (n : Int) (s : ByteArray) (wh : Bool) (c : Int) : parseV p [⟨6, s, n, wh, c⟩] = numberV p n wh := by
  rw [parseV_one, if_pos h]
  rfl

set_option maxRecDepth 100000 in
set_option maxHeartbeats 4000000 in
theorem valueNumbers_walk (w : World) (hS : WordsAt w.heap.size w) (n : Int) (_hn : (Lit.int .i64 n).wf = true) (wh : Bool) :
    Calls Tryd.prog 4 #[.int .i64 n, .bool wh] w fun e w' => e = .returned (.bool true) ∧ Below w.heap.size w w' := by
  have h0 := alive7_any w hS
  go_enter Tryd.func4, Tryd.ntmps4
  go_wp2_with fail
  refine h0.mono ?_
  clear h0
  rintro e w1 ⟨rfl, b1⟩
  replace hS := hS.next b1
  go_wp2
  go_loopw [6] (fun x wr => ∃ k : Nat, x = .int .i64 k ∧ k ≤ 8 ∧ WordsAt wr.heap.size wr ∧ Below w.heap.size w wr) (fun x _ => 8 - (intOf x).toNat)
  case atStart => exact ⟨0, rfl, by omega, hS, b1⟩
  case round =>
    clear hS b1
    obtain ⟨k, rfl, hk, hS, hb⟩ := hrel
    by_cases hlt : k < 8
    · have hki : (k : Int) < 8 := by omega
      have h1 := parse_new k ⟨6, ⟨#[]⟩, n, wh, 0⟩ _ hS (show (⟨#[]⟩ : ByteArray).size ≤ maxLen by decide)
      rw [parseV_num (by omega)] at h1
      obtain ⟨v1, v2, v3, hV⟩ : ∃ v1 v2 v3, numberV k n wh = (v1, v2, v3) := ⟨_, _, _, rfl⟩
      rw [hV] at h1
      unfold ret at h1
      simp only at h1
      go_wp2_with fail
      refine h1.mono ?_
      clear h1
      rintro e w2 ⟨rfl, b2⟩
      have hb2 := below_next hb b2
      have hs2 := hb2.size
      have FW : Hid (∀ o o', WordsAt ((w2.alloc o).alloc o').heap.size ((w2.alloc o).alloc o')) := fun o o' => (hS.next b2).next (((Below.refl _ w2).alloc (Nat.le_refl _) o).alloc (by rw [World.size_alloc]; omega) o')
      have FB : Hid (∀ o o', Below w.heap.size w ((w2.alloc o).alloc o')) := fun o o' => (hb2.alloc hs2 o).alloc (by rw [World.size_alloc]; omega) o'
      clear hS hb b2
      unfold numberV at hV
      by_cases k5 : k = 5
      · subst k5
        by_cases n0 : n = 0
        · subst n0
          obtain ⟨rfl, rfl, rfl⟩ : (2 : Int) = v1 ∧ (0 : Int) = v2 ∧ true = v3 := by simpa using hV
          clear hV
          go_wp2
          exact ⟨⟨6, rfl, by omega, FW _ _, FB _ _⟩, by simp [intOf]⟩
        · have e0 : (n == 0) = false := by simpa using n0
          obtain ⟨rfl, rfl, rfl⟩ : (0 : Int) = v1 ∧ (0 : Int) = v2 ∧ false = v3 := by simpa [n0, no] using hV
          clear hV n0
          go_wp2
          exact ⟨⟨6, rfl, by omega, FW _ _, FB _ _⟩, by simp [intOf]⟩
      by_cases k6 : k = 6
      · subst k6
        unfold cutV at hV
        by_cases i0 : n < 0
        · have i1 : ¬ (1000 : Int) < n := by omega
          obtain ⟨rfl, rfl, rfl⟩ : (5 : Int) = v1 ∧ (0 : Int) = v2 ∧ true = v3 := by simpa [i0] using hV
          clear hV
          go_wp2
          exact ⟨⟨7, rfl, by omega, FW _ _, FB _ _⟩, by simp [intOf]⟩
        by_cases i1 : 1000 < n
        · obtain ⟨rfl, rfl, rfl⟩ : (5 : Int) = v1 ∧ (1000 : Int) = v2 ∧ true = v3 := by simpa [i0, i1] using hV
          clear hV
          go_wp2
          exact ⟨⟨7, rfl, by omega, FW _ _, FB _ _⟩, by simp [intOf]⟩
        · obtain ⟨rfl, rfl, rfl⟩ : (5 : Int) = v1 ∧ n = v2 ∧ true = v3 := by simpa [i0, i1] using hV
          clear hV
          go_wp2
          exact ⟨⟨7, rfl, by omega, FW _ _, FB _ _⟩, by simp [intOf]⟩
      by_cases k7 : k = 7
      · subst k7
        cases wh with
        | true =>
          obtain ⟨rfl, rfl, rfl⟩ : (5 : Int) = v1 ∧ n = v2 ∧ true = v3 := by simpa using hV
          clear hV
          go_wp2
          exact ⟨⟨8, rfl, by omega, FW _ _, FB _ _⟩, by simp [intOf]⟩
        | false =>
          obtain ⟨rfl, rfl, rfl⟩ : (0 : Int) = v1 ∧ (0 : Int) = v2 ∧ false = v3 := by simpa [no] using hV
          clear hV
          go_wp2
          exact ⟨⟨8, rfl, by omega, FW _ _, FB _ _⟩, by simp [intOf]⟩
      have e5 : ((k : Int) == 5) = false := by simp; omega
      have e6 : ((k : Int) == 6) = false := by simp; omega
      have e7 : ((k : Int) == 7) = false := by simp; omega
      obtain ⟨rfl, rfl, rfl⟩ : (0 : Int) = v1 ∧ (0 : Int) = v2 ∧ false = v3 := by
        rw [if_neg (by omega), if_neg (by omega), if_neg (by omega)] at hV
        simpa [no] using hV
      clear hV k5 k6 k7
      go_wp2
      exact ⟨⟨k + 1, by go_num, by omega, FW _ _, FB _ _⟩, by simp [intOf]; omega⟩
    · have hki : ¬ (k : Int) < 8 := by omega
      go_wp2
      go_ret
      exact ⟨rfl, hb⟩

theorem valueNumbers_met (os : Os) : laidMet Tryd.prog Rows.valueNumbersRow.laid ((laidIn (World.holding Tryd.prog os ⟨#[], #[], []⟩)).forCall (fun _ _ => 0) ⟨#[], #[.int .i64 0, .bool false], []⟩).memory :=
  laidMet_of_run' 8 (by kernel_rfl) (by kernel_rfl)
theorem valueNumbers_reads (os : Os) {H : Type} (enc : TypeId × Value → H) : ∃ places, DataW.whole enc Tryd.prog ((laidIn (World.holding Tryd.prog os ⟨#[], #[], []⟩)).forCall (fun _ _ => 0) ⟨#[], #[.int .i64 0, .bool false], []⟩).memory Tryd.f4.params.toList Rows.valueNumbersSpec.vars false (#[.int .i64 0, .bool false] : Array Value).toList 8 = some ([.lit (.int .i64 0), .lit (.bool false)], [], places) :=
  ⟨[], by kernel_rfl⟩

set_option maxRecDepth 100000 in
theorem valueNumbers_lifted (os : Os) (started : os.Started) (H : Type) (enc : TypeId × Value → H) (F : Stop.Interp) :
    ReturnsInHanded {} Tryd.checked os 4 .any ((OpenSpec.ofChange Rows.valueNumbersSpec).preRow enc Tryd.prog Tryd.f4 Rows.valueNumbersRow.domain false Rows.valueNumbersRow.laid) (((OpenSpec.ofChange Rows.valueNumbersSpec).at F).post enc Tryd.prog Tryd.f4 false true false false) := by
  obtain ⟨places, hx⟩ := valueNumbers_reads os enc
  refine returnsInHanded_of_row (C := Tryd.checked) (s := OpenSpec.ofChange Rows.valueNumbersSpec) ownNone started (by kernel_rfl) Tryd.func4
    (witness_row_at (enc := enc) (C := Tryd.checked) false (laidIn (World.holding Tryd.prog os ⟨#[], #[], []⟩)) #[.int .i64 0, .bool false] rfl (by kernel_rfl) (by kernel_rfl) (by kernel_rfl)
      (OpenSpec.preRow_of_cond 8 hx (by kernel_rfl) (fun k hk => by cases hk) (by kernel_rfl) (valueNumbers_met os))) ?_
  intro W base args ds gs before hval hW _ _ _ hL hS _
  have hW' := hW
  obtain ⟨p, q, hA0, hV, rfl, hfz, hnd⟩ := hW
  have hA : DataW.TrodAll enc Tryd.prog W 0 (fun _ => true) true Tryd.f4.params.toList args.toList ds p := hA0
  rw [Tryd.params4] at hA hval
  obtain ⟨v0, vs0, d0, ds0, p0, q0, hargs, rfl, rfl, h0, r0⟩ := trodAll_cons hA
  obtain ⟨v1, vs1, d1, ds1, p1, q1, rfl, rfl, rfl, h1, r1⟩ := trodAll_cons r0
  obtain ⟨rfl, rfl, rfl⟩ := trodAll_nil r1
  obtain rfl : args = #[v0, v1] := by cases args; simp_all
  obtain ⟨rfl, rfl⟩ := trodVars_none hV
  obtain ⟨a0, rfl, rfl, rfl, w0⟩ := open_int Tryd.underlying3 (hval 0 3 v0 rfl rfl) h0
  obtain ⟨a1, rfl, rfl, rfl⟩ := open_bool Tryd.underlying4 (hval 1 4 v1 rfl rfl) h1
  clear hA0
  refine (valueNumbers_walk W (tabs_of_laid hL hS) a0 w0 a1).mono fun e W' ⟨he, bel⟩ => ?_
  subst he
  exact ⟨_, rfl, _, _, _, [], _, [], hW', trodAll_mk1 (shut_bool Tryd.underlying4 _), (trodAll_cons_mk (shut_int Tryd.underlying3 w0) (trodAll_cons_mk (shut_bool Tryd.underlying4 _) trodAll_mk0)), rfl, bel.frame _, fun h => by cases h⟩

theorem valueNumbers_said : Rows.ValueNumbersSaid :=
  OpenClaim.holds_of_cond 4 Tryd.f4 rfl rfl rfl rfl rfl rfl rfl ⟨rfl, rfl, rfl, rfl, rfl⟩ rfl rfl rfl rfl rfl (by kernel_rfl) Tryd.func4 (by kernel_rfl)
    (of_decide_eq_true (by kernel_rfl)) (by unfold Func.isWrapper; first | (rw [if_pos (by decide +kernel)]; kernel_rfl) | (rw [if_neg (by decide +kernel)]; exact ⟨rfl, rfl⟩))
    (fun os started H enc _ F => by rw [OpenClaim.pre_eq_preRow]; exact valueNumbers_lifted os started H enc F)

theorem valueNumbers_plain (f : FuncId) (fn : Func) (hf : Tryd.pinned.checked.prog.funcNamed "tapestrier/tapestrierlaw7.ValueNumbers" = some f) (hfn : Tryd.pinned.checked.prog.funcs[f]? = some fn) :
    false = Tryd.pinned.checked.prog.looks [] ∧ ∀ (j : Nat) t, fn.params[j]? = some t → Tryd.pinned.checked.prog.wantsStandIn t = false := by
  obtain rfl : f = 4 := Option.some.inj ((show Tryd.prog.funcNamed "tapestrier/tapestrierlaw7.ValueNumbers" = some 4 by kernel_rfl).symm.trans hf) |>.symm
  obtain rfl : fn = Tryd.f4 := (Option.some.inj (Tryd.func4.symm.trans hfn)).symm
  refine ⟨by kernel_rfl, fun j t ht => ?_⟩
  rw [Tryd.params4] at ht
  have hm : t ∈ [3, 4] := by simpa using Array.mem_of_getElem? ht
  have hall : ([3, 4].all fun u => !Tryd.prog.wantsStandIn u) = true := by kernel_rfl
  exact (show Tryd.prog.wantsStandIn t = false by simpa using List.all_eq_true.1 hall t hm)

theorem valueNumbers_card : Rows.ValueNumbersCardSaid :=
  Claim7.holds_tied_plain_at .later [] _ _ _ _ valueNumbers_said (fun _ h => by cases h) (by kernel_rfl) (fun _ h => by cases h) valueNumbers_row_tie rfl ⟨rfl, rfl⟩ (by kernel_rfl) rfl valueNumbers_plain (by kernel_rfl)
#print axioms valueNumbers_card


end Go.Proofs.YtghjpefkeobfnabDoor
