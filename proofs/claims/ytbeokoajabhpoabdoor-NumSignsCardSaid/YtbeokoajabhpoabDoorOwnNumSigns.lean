/- For every integer: the law tapestrierlaw3.NumSigns returns true and leaves its argument as it was; conditions: the library's tables hold what its text lays (the card ties them to the program's text). -/
import Derived.Test.YtbeokoajabhpoabDoorNmAlive
import Derived.Test.YtbeokoajabhpoabDoorNmBack
import Derived.Test.YtbeokoajabhpoabDoorNmLaid
namespace Go.Proofs.YtbeokoajabhpoabDoor
open Go Go.ChangeShapes Go.WideShapes Go.ChangeAt Go.RowKit

theorem num_plus {m : Nat} (h : m ≤ 2147483647) : numOk (43 :: mag m) = true ∧ numN (43 :: mag m) = m := by
  obtain ⟨k1, k2⟩ := num_mag (l := 43 :: mag m) h rfl
  exact ⟨k1, by rw [numN_up k1 rfl, k2]⟩
theorem num_minus {m : Nat} (h : m ≤ 2147483647) : numOk (45 :: mag m) = true ∧ numN (45 :: mag m) = -(m : Int) := by
  obtain ⟨k1, k2⟩ := num_mag (l := 45 :: mag m) h rfl
  exact ⟨k1, by rw [numN_down k1 rfl, k2]⟩
theorem num_two (l : List UInt8) : numOk (45 :: 45 :: l) = false ∧ numN (45 :: 45 :: l) = 0 := by
  have h : numOk (45 :: 45 :: l) = false := rfl
  exact ⟨h, by simp [numN, h]⟩
theorem num_plus_minus (l : List UInt8) : numOk (43 :: 45 :: l) = false ∧ numN (43 :: 45 :: l) = 0 := by
  have h : numOk (43 :: 45 :: l) = false := rfl
  exact ⟨h, by simp [numN, h]⟩

set_option maxRecDepth 100000 in
set_option maxHeartbeats 1000000 in
theorem numSigns_walk (w : World) (hT : Tabs w.heap.size w) (n : Int) (_wa : (Lit.int .i64 n).wf = true) :
    Calls Tryd.prog 4 #[.int .i64 n] w fun e w' => e = .returned (.bool true) ∧ Below w.heap.size w w' := by
  have h0 := alive_any w hT
  have h1 := cap_any n
  have c1 := capI_ge n
  have c2 := capI_le n
  generalize capI n = c at *
  by_cases hc : c ≤ 0
  · go_enter Tryd.func4, Tryd.ntmps4
    go_wp2_with fail
    refine h0.mono ?_
    rintro e w1 ⟨rfl, b1⟩
    clear h0
    go_wp2_with fail
    refine (h1 _).mono ?_
    rintro e w' ⟨rfl, rfl⟩
    go_wp2
    go_ret
    exact ⟨rfl, b1⟩
  · obtain ⟨m, rfl⟩ : ∃ m : Nat, c = m := ⟨c.toNat, by omega⟩
    have h2 := fun w hT => text_up m w m (by omega) (capI_in (by omega) (by omega)) hT
    have h3 := fun w hT => text_down (-(m : Int)) w m (by omega) (by omega) (capI_in (by omega) (by omega)) hT
    have hlen := mag_len m (by omega)
    obtain ⟨p1, p2⟩ := num_plus (m := m) (by omega)
    obtain ⟨q1, q2⟩ := num_minus (m := m) (by omega)
    obtain ⟨r1, r2⟩ := num_two (mag m)
    obtain ⟨t1, t2⟩ := num_plus_minus (mag m)
    generalize mag m = l at *
    go_enter Tryd.func4, Tryd.ntmps4
    go_wp2_with fail
    refine h0.mono ?_
    rintro e w1 ⟨rfl, b1⟩
    clear h0
    go_wp2_with fail
    refine (h1 _).mono ?_
    rintro e w' ⟨rfl, rfl⟩
    go_wp2_with fail
    refine (h2 _ (hT.next b1)).mono ?_
    rintro e w2 ⟨s, rfl, hs, b2⟩
    have hss : s.size ≤ 30 := by rw [← len_list, hs]; exact hlen
    have bb2 := b1.trans (b2.mono b1.size)
    clear b1 b2 h1 h2 hlen
    obtain ⟨s1, hs1⟩ : ∃ t : ByteArray, (⟨#[43]⟩ : ByteArray) ++ s = t := ⟨_, rfl⟩
    obtain ⟨s2, hs2⟩ : ∃ t : ByteArray, (⟨#[45]⟩ : ByteArray) ++ s = t := ⟨_, rfl⟩
    obtain ⟨s3, hs3⟩ : ∃ t : ByteArray, (⟨#[45, 45]⟩ : ByteArray) ++ s = t := ⟨_, rfl⟩
    obtain ⟨s4, hs4⟩ : ∃ t : ByteArray, (⟨#[43, 45]⟩ : ByteArray) ++ s = t := ⟨_, rfl⟩
    have l1 : s1.data.toList = 43 :: l := by rw [← hs1, data_app, hs]; rfl
    have l2 : s2.data.toList = 45 :: l := by rw [← hs2, data_app, hs]; rfl
    have l3 : s3.data.toList = 45 :: 45 :: l := by rw [← hs3, data_app, hs]; rfl
    have l4 : s4.data.toList = 43 :: 45 :: l := by rw [← hs4, data_app, hs]; rfl
    have z1 : s1.size ≤ 32 := by rw [← len_list, l1, List.length_cons, ← hs, len_list]; omega
    have z2 : s2.size ≤ 32 := by rw [← len_list, l2, List.length_cons, ← hs, len_list]; omega
    have z3 : s3.size ≤ 32 := by rw [← len_list, l3, List.length_cons, List.length_cons, ← hs, len_list]; omega
    have z4 : s4.size ≤ 32 := by rw [← len_list, l4, List.length_cons, List.length_cons, ← hs, len_list]; omega
    have k1 := of_any s1 w2 (by omega) (hT.next bb2)
    rw [l1, p1, p2] at k1
    go_wp2_with fail
    refine k1.mono ?_
    rintro e w3 ⟨rfl, b3⟩
    have bb3 := bb2.trans (b3.mono bb2.size)
    clear bb2 b3 k1
    have k2 := of_any s2 w3 (by omega) (hT.next bb3)
    rw [l2, q1, q2] at k2
    go_wp2_with fail
    refine k2.mono ?_
    rintro e w4 ⟨rfl, b4⟩
    have bb4 := bb3.trans (b4.mono bb3.size)
    clear bb3 b4 k2
    have k3 := of_any s3 w4 (by omega) (hT.next bb4)
    rw [l3, r1, r2] at k3
    go_wp2_with fail
    refine k3.mono ?_
    rintro e w5 ⟨rfl, b5⟩
    have bb5 := bb4.trans (b5.mono bb4.size)
    clear bb4 b5 k3
    have k4 := of_any s4 w5 (by omega) (hT.next bb5)
    rw [l4, t1, t2] at k4
    go_wp2_with fail
    refine k4.mono ?_
    rintro e w6 ⟨rfl, b6⟩
    have bb6 := bb5.trans (b6.mono bb5.size)
    clear bb5 b6 k4
    go_wp2_with fail
    refine (h3 _ (hT.next bb6)).mono ?_
    rintro e w7 ⟨r, rfl, hr, b7⟩
    obtain rfl : s2 = r := (eq_list l2).trans (eq_list hr).symm
    clear l1 l2 l3 l4 hr h3
    go_wp2
    go_ret
    exact ⟨rfl, bb6.trans (b7.mono bb6.size)⟩

theorem numSigns_met (os : Os) : laidMet Tryd.prog Rows.numSignsRow.laid ((laidIn (World.holding Tryd.prog os ⟨#[], #[], []⟩)).forCall (fun _ _ => 0) ⟨#[], #[.int .i64 0], []⟩).memory :=
  laidMet_of_run' 8 (by kernel_rfl) (by kernel_rfl)
theorem numSigns_reads (os : Os) {H : Type} (enc : TypeId × Value → H) : ∃ places, DataW.whole enc Tryd.prog ((laidIn (World.holding Tryd.prog os ⟨#[], #[], []⟩)).forCall (fun _ _ => 0) ⟨#[], #[.int .i64 0], []⟩).memory Tryd.f4.params.toList Rows.numSignsSpec.vars false (#[.int .i64 0] : Array Value).toList 8 = some ([.lit (.int .i64 0)], [], places) :=
  ⟨[], by kernel_rfl⟩

set_option maxRecDepth 100000 in
theorem numSigns_lifted (os : Os) (started : os.Started) (H : Type) (enc : TypeId × Value → H) (F : Stop.Interp) :
    ReturnsInHanded {} Tryd.checked os 4 .any ((OpenSpec.ofChange Rows.numSignsSpec).preRow enc Tryd.prog Tryd.f4 Rows.numSignsRow.domain false Rows.numSignsRow.laid) (((OpenSpec.ofChange Rows.numSignsSpec).at F).post enc Tryd.prog Tryd.f4 false true false false) := by
  obtain ⟨places, hx⟩ := numSigns_reads os enc
  refine returnsInHanded_of_row (C := Tryd.checked) (s := OpenSpec.ofChange Rows.numSignsSpec) ownNone started (by kernel_rfl) Tryd.func4
    (witness_row_at (enc := enc) (C := Tryd.checked) false (laidIn (World.holding Tryd.prog os ⟨#[], #[], []⟩)) #[.int .i64 0] rfl (by kernel_rfl) (by kernel_rfl) (by kernel_rfl)
      (OpenSpec.preRow_of_cond 8 hx (by kernel_rfl) (fun k hk => by cases hk) (by kernel_rfl) (numSigns_met os))) ?_
  intro W base args ds gs before hval hW _ _ _ hL hS _
  have hW' := hW
  obtain ⟨p, q, hA0, hV, rfl, hfz, hnd⟩ := hW
  have hA : DataW.TrodAll enc Tryd.prog W 0 (fun _ => true) true Tryd.f4.params.toList args.toList ds p := hA0
  rw [Tryd.params4] at hA hval
  obtain ⟨v0, vs0, d0, ds0, p0, q0, hargs, rfl, rfl, h0, r0⟩ := trodAll_cons hA
  obtain ⟨rfl, rfl, rfl⟩ := trodAll_nil r0
  obtain rfl : args = #[v0] := by cases args; simp_all
  obtain ⟨rfl, rfl⟩ := trodVars_none hV
  obtain ⟨a0, rfl, rfl, rfl, w0⟩ := open_int Tryd.underlying3 (hval 0 3 v0 rfl rfl) h0
  clear hA0
  refine (numSigns_walk W (tabs_of_laid hL hS) a0 w0).mono fun e W' ⟨he, bel⟩ => ?_
  subst he
  exact ⟨_, rfl, _, _, _, [], _, [], hW', trodAll_mk1 (shut_bool Tryd.underlying4 _), (trodAll_cons_mk (shut_int Tryd.underlying3 w0) trodAll_mk0), rfl, bel.frame _, fun h => by cases h⟩

theorem numSigns_said : Rows.NumSignsSaid :=
  OpenClaim.holds_of_cond 4 Tryd.f4 rfl rfl rfl rfl rfl rfl rfl ⟨rfl, rfl, rfl, rfl, rfl⟩ rfl rfl rfl rfl rfl (by kernel_rfl) Tryd.func4 (by kernel_rfl)
    (of_decide_eq_true (by kernel_rfl)) (by unfold Func.isWrapper; first | (rw [if_pos (by decide +kernel)]; kernel_rfl) | (rw [if_neg (by decide +kernel)]; exact ⟨rfl, rfl⟩))
    (fun os started H enc _ F => by rw [OpenClaim.pre_eq_preRow]; exact numSigns_lifted os started H enc F)

theorem numSigns_plain (f : FuncId) (fn : Func) (hf : Tryd.pinned.checked.prog.funcNamed "tapestrier/tapestrierlaw3.NumSigns" = some f) (hfn : Tryd.pinned.checked.prog.funcs[f]? = some fn) :
    false = Tryd.pinned.checked.prog.looks [] ∧ ∀ (j : Nat) t, fn.params[j]? = some t → Tryd.pinned.checked.prog.wantsStandIn t = false := by
  obtain rfl : f = 4 := Option.some.inj ((show Tryd.prog.funcNamed "tapestrier/tapestrierlaw3.NumSigns" = some 4 by kernel_rfl).symm.trans hf) |>.symm
  obtain rfl : fn = Tryd.f4 := (Option.some.inj (Tryd.func4.symm.trans hfn)).symm
  refine ⟨by kernel_rfl, fun j t ht => ?_⟩
  rw [Tryd.params4] at ht
  have hm : t ∈ [3] := by simpa using Array.mem_of_getElem? ht
  have hall : ([3].all fun u => !Tryd.prog.wantsStandIn u) = true := by kernel_rfl
  exact (show Tryd.prog.wantsStandIn t = false by simpa using List.all_eq_true.1 hall t hm)

theorem numSigns_card : Rows.NumSignsCardSaid :=
  Claim7.holds_tied_plain_at .later [] _ _ _ _ numSigns_said (fun _ h => by cases h) (by kernel_rfl) (fun _ h => by cases h) numSigns_row_tie rfl ⟨rfl, rfl⟩ (by kernel_rfl) rfl numSigns_plain (by kernel_rfl)
#print axioms numSigns_card

end Go.Proofs.YtbeokoajabhpoabDoor
