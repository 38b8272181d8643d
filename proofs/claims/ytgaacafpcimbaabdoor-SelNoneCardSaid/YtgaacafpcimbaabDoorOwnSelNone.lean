/- For every integer: the law tapestrierlaw8.SelNone returns true and leaves its argument as it was; no condition (its card: the table of operators read off the program's text). -/
import Derived.Test.YtgaacafpcimbaabDoorSlAlv
import Derived.Test.YtgaacafpcimbaabDoorSlLaid
namespace Go.Proofs.YtgaacafpcimbaabDoor
open Go Go.ChangeShapes Go.WideShapes Go.ChangeAt Go.RowKit Sl
open Go.ChangeMaps (open_string shut_string)

def noneT : List ByteArray := [⟨#[]⟩, ⟨#[32]⟩, ⟨#[44]⟩, ⟨#[97, 44]⟩, ⟨#[44, 97]⟩, ⟨#[97, 44, 44, 98]⟩, ⟨#[62, 97]⟩, ⟨#[97, 62]⟩, ⟨#[97, 62, 62, 98]⟩, ⟨#[97, 32, 43, 32, 126, 32, 98]⟩, ⟨#[46]⟩, ⟨#[46, 49]⟩, ⟨#[35]⟩, ⟨#[97, 32, 98, 32, 62]⟩, ⟨#[91]⟩, ⟨#[91, 93]⟩, ⟨#[91, 97]⟩, ⟨#[91, 97, 61]⟩, ⟨#[91, 97, 61, 93]⟩, ⟨#[91, 97, 61, 49, 93]⟩, ⟨#[91, 97, 32, 61, 32, 98, 32, 99, 93]⟩, ⟨#[91, 97, 126, 32, 61, 98, 93]⟩, ⟨#[91, 49, 61, 97, 93]⟩, ⟨#[58]⟩, ⟨#[58, 58, 97]⟩, ⟨#[58, 110, 111, 116, 104, 105, 110, 103]⟩, ⟨#[58, 114, 111, 111, 116, 40, 41]⟩, ⟨#[58, 110, 116, 104, 45, 99, 104, 105, 108, 100]⟩, ⟨#[58, 110, 116, 104, 45, 99, 104, 105, 108, 100, 40]⟩, ⟨#[58, 110, 116, 104, 45, 99, 104, 105, 108, 100, 40, 97, 41]⟩, ⟨#[58, 110, 116, 104, 45, 99, 104, 105, 108, 100, 40, 49, 32, 50, 41]⟩, ⟨#[58, 110, 111, 116]⟩, ⟨#[58, 110, 111, 116, 40, 41]⟩, ⟨#[58, 110, 111, 116, 40, 97]⟩, ⟨#[58, 110, 111, 116, 40, 97, 44, 41]⟩, ⟨#[58, 105, 115, 40, 32, 62, 32, 97, 41]⟩, ⟨#[97, 59, 98]⟩, ⟨#[97, 123, 98]⟩, ⟨#[97, 41]⟩, ⟨#[42, 97]⟩, ⟨#[97, 42]⟩, ⟨#[42, 42]⟩, ⟨#[49]⟩, ⟨#[64, 97]⟩, ⟨#[34, 97, 34]⟩, ⟨#[97, 47, 98]⟩, ⟨#[33]⟩, ⟨#[97, 124, 98]⟩, ⟨#[40, 97, 41]⟩]
theorem none_all : (noneT.all fun s => (ofV s).isNone && decide (s.size ≤ 100)) = true := by decide +kernel

set_option maxRecDepth 100000 in
set_option maxHeartbeats 4000000 in
theorem selNone_walk (w : World) (hT : OpsAt w.heap.size w) (n : Int) (_hn : (Lit.int .i64 n).wf = true) :
    Calls Tryd.prog 5 #[.int .i64 n] w fun e w' => e = .returned (.bool true) ∧ Below w.heap.size w w' := by
  have h0 := alive_any w hT
  go_enter Tryd.func5, Tryd.ntmps5
  go_wp2_with fail
  refine h0.mono ?_
  clear h0
  rintro e w1 ⟨rfl, b1⟩
  have bW : Below w1.heap.size w1 (w1.alloc (.cells #[.string ⟨#[]⟩, .string ⟨#[32]⟩, .string ⟨#[44]⟩, .string ⟨#[97, 44]⟩, .string ⟨#[44, 97]⟩, .string ⟨#[97, 44, 44, 98]⟩, .string ⟨#[62, 97]⟩, .string ⟨#[97, 62]⟩, .string ⟨#[97, 62, 62, 98]⟩, .string ⟨#[97, 32, 43, 32, 126, 32, 98]⟩, .string ⟨#[46]⟩, .string ⟨#[46, 49]⟩, .string ⟨#[35]⟩, .string ⟨#[97, 32, 98, 32, 62]⟩, .string ⟨#[91]⟩, .string ⟨#[91, 93]⟩, .string ⟨#[91, 97]⟩, .string ⟨#[91, 97, 61]⟩, .string ⟨#[91, 97, 61, 93]⟩, .string ⟨#[91, 97, 61, 49, 93]⟩, .string ⟨#[91, 97, 32, 61, 32, 98, 32, 99, 93]⟩, .string ⟨#[91, 97, 126, 32, 61, 98, 93]⟩, .string ⟨#[91, 49, 61, 97, 93]⟩, .string ⟨#[58]⟩, .string ⟨#[58, 58, 97]⟩, .string ⟨#[58, 110, 111, 116, 104, 105, 110, 103]⟩, .string ⟨#[58, 114, 111, 111, 116, 40, 41]⟩, .string ⟨#[58, 110, 116, 104, 45, 99, 104, 105, 108, 100]⟩, .string ⟨#[58, 110, 116, 104, 45, 99, 104, 105, 108, 100, 40]⟩, .string ⟨#[58, 110, 116, 104, 45, 99, 104, 105, 108, 100, 40, 97, 41]⟩, .string ⟨#[58, 110, 116, 104, 45, 99, 104, 105, 108, 100, 40, 49, 32, 50, 41]⟩, .string ⟨#[58, 110, 111, 116]⟩, .string ⟨#[58, 110, 111, 116, 40, 41]⟩, .string ⟨#[58, 110, 111, 116, 40, 97]⟩, .string ⟨#[58, 110, 111, 116, 40, 97, 44, 41]⟩, .string ⟨#[58, 105, 115, 40, 32, 62, 32, 97, 41]⟩, .string ⟨#[97, 59, 98]⟩, .string ⟨#[97, 123, 98]⟩, .string ⟨#[97, 41]⟩, .string ⟨#[42, 97]⟩, .string ⟨#[97, 42]⟩, .string ⟨#[42, 42]⟩, .string ⟨#[49]⟩, .string ⟨#[64, 97]⟩, .string ⟨#[34, 97, 34]⟩, .string ⟨#[97, 47, 98]⟩, .string ⟨#[33]⟩, .string ⟨#[97, 124, 98]⟩, .string ⟨#[40, 97, 41]⟩] 9)) := (Below.refl _ _).alloc (Nat.le_refl _) _
  have hcell : ∀ k s, noneT[k]? = some s → (w1.alloc (.cells #[.string ⟨#[]⟩, .string ⟨#[32]⟩, .string ⟨#[44]⟩, .string ⟨#[97, 44]⟩, .string ⟨#[44, 97]⟩, .string ⟨#[97, 44, 44, 98]⟩, .string ⟨#[62, 97]⟩, .string ⟨#[97, 62]⟩, .string ⟨#[97, 62, 62, 98]⟩, .string ⟨#[97, 32, 43, 32, 126, 32, 98]⟩, .string ⟨#[46]⟩, .string ⟨#[46, 49]⟩, .string ⟨#[35]⟩, .string ⟨#[97, 32, 98, 32, 62]⟩, .string ⟨#[91]⟩, .string ⟨#[91, 93]⟩, .string ⟨#[91, 97]⟩, .string ⟨#[91, 97, 61]⟩, .string ⟨#[91, 97, 61, 93]⟩, .string ⟨#[91, 97, 61, 49, 93]⟩, .string ⟨#[91, 97, 32, 61, 32, 98, 32, 99, 93]⟩, .string ⟨#[91, 97, 126, 32, 61, 98, 93]⟩, .string ⟨#[91, 49, 61, 97, 93]⟩, .string ⟨#[58]⟩, .string ⟨#[58, 58, 97]⟩, .string ⟨#[58, 110, 111, 116, 104, 105, 110, 103]⟩, .string ⟨#[58, 114, 111, 111, 116, 40, 41]⟩, .string ⟨#[58, 110, 116, 104, 45, 99, 104, 105, 108, 100]⟩, .string ⟨#[58, 110, 116, 104, 45, 99, 104, 105, 108, 100, 40]⟩, .string ⟨#[58, 110, 116, 104, 45, 99, 104, 105, 108, 100, 40, 97, 41]⟩, .string ⟨#[58, 110, 116, 104, 45, 99, 104, 105, 108, 100, 40, 49, 32, 50, 41]⟩, .string ⟨#[58, 110, 111, 116]⟩, .string ⟨#[58, 110, 111, 116, 40, 41]⟩, .string ⟨#[58, 110, 111, 116, 40, 97]⟩, .string ⟨#[58, 110, 111, 116, 40, 97, 44, 41]⟩, .string ⟨#[58, 105, 115, 40, 32, 62, 32, 97, 41]⟩, .string ⟨#[97, 59, 98]⟩, .string ⟨#[97, 123, 98]⟩, .string ⟨#[97, 41]⟩, .string ⟨#[42, 97]⟩, .string ⟨#[97, 42]⟩, .string ⟨#[42, 42]⟩, .string ⟨#[49]⟩, .string ⟨#[64, 97]⟩, .string ⟨#[34, 97, 34]⟩, .string ⟨#[97, 47, 98]⟩, .string ⟨#[33]⟩, .string ⟨#[97, 124, 98]⟩, .string ⟨#[40, 97, 41]⟩] 9)).cell? ⟨w1.heap.size, k, none⟩ = some (.string s) := fun k s h => by
    rw [cell_of_block (heap_alloc_new w1 _) k]
    show (noneT.map Value.string).toArray[k]? = _
    simp [h]
  go_upto_region 3 with fail
  generalize w1.alloc (.cells #[.string ⟨#[]⟩, .string ⟨#[32]⟩, .string ⟨#[44]⟩, .string ⟨#[97, 44]⟩, .string ⟨#[44, 97]⟩, .string ⟨#[97, 44, 44, 98]⟩, .string ⟨#[62, 97]⟩, .string ⟨#[97, 62]⟩, .string ⟨#[97, 62, 62, 98]⟩, .string ⟨#[97, 32, 43, 32, 126, 32, 98]⟩, .string ⟨#[46]⟩, .string ⟨#[46, 49]⟩, .string ⟨#[35]⟩, .string ⟨#[97, 32, 98, 32, 62]⟩, .string ⟨#[91]⟩, .string ⟨#[91, 93]⟩, .string ⟨#[91, 97]⟩, .string ⟨#[91, 97, 61]⟩, .string ⟨#[91, 97, 61, 93]⟩, .string ⟨#[91, 97, 61, 49, 93]⟩, .string ⟨#[91, 97, 32, 61, 32, 98, 32, 99, 93]⟩, .string ⟨#[91, 97, 126, 32, 61, 98, 93]⟩, .string ⟨#[91, 49, 61, 97, 93]⟩, .string ⟨#[58]⟩, .string ⟨#[58, 58, 97]⟩, .string ⟨#[58, 110, 111, 116, 104, 105, 110, 103]⟩, .string ⟨#[58, 114, 111, 111, 116, 40, 41]⟩, .string ⟨#[58, 110, 116, 104, 45, 99, 104, 105, 108, 100]⟩, .string ⟨#[58, 110, 116, 104, 45, 99, 104, 105, 108, 100, 40]⟩, .string ⟨#[58, 110, 116, 104, 45, 99, 104, 105, 108, 100, 40, 97, 41]⟩, .string ⟨#[58, 110, 116, 104, 45, 99, 104, 105, 108, 100, 40, 49, 32, 50, 41]⟩, .string ⟨#[58, 110, 111, 116]⟩, .string ⟨#[58, 110, 111, 116, 40, 41]⟩, .string ⟨#[58, 110, 111, 116, 40, 97]⟩, .string ⟨#[58, 110, 111, 116, 40, 97, 44, 41]⟩, .string ⟨#[58, 105, 115, 40, 32, 62, 32, 97, 41]⟩, .string ⟨#[97, 59, 98]⟩, .string ⟨#[97, 123, 98]⟩, .string ⟨#[97, 41]⟩, .string ⟨#[42, 97]⟩, .string ⟨#[97, 42]⟩, .string ⟨#[42, 42]⟩, .string ⟨#[49]⟩, .string ⟨#[64, 97]⟩, .string ⟨#[34, 97, 34]⟩, .string ⟨#[97, 47, 98]⟩, .string ⟨#[33]⟩, .string ⟨#[97, 124, 98]⟩, .string ⟨#[40, 97, 41]⟩] 9) = W at *
  have bb := below_next b1 bW
  by_cases hneg : n < 0
  · clear hcell
    go_wp2
    go_ret
    exact ⟨rfl, bb⟩
  by_cases hbig : 49 ≤ n
  · clear hcell
    go_wp2
    go_ret
    exact ⟨rfl, bb⟩
  obtain ⟨k, rfl⟩ : ∃ k : Nat, n = (k : Int) := ⟨n.toNat, by omega⟩
  have hk : k < 49 := by omega
  obtain ⟨s, hs⟩ : ∃ s, noneT[k]? = some s := ⟨_, List.getElem?_eq_getElem (show k < noneT.length from hk)⟩
  have hfact := List.all_eq_true.1 none_all s (List.mem_of_getElem? hs)
  simp only [Bool.and_eq_true, decide_eq_true_eq, Option.isNone_iff_eq_none] at hfact
  have c0 := hcell k s hs
  have hki : (k : Int) < 49 := by omega
  have hki0 : ¬ (k : Int) < 0 := by omega
  have hki1 : ¬ (49 : Int) ≤ (k : Int) := by omega
  have hO := (hT.next b1).next bW
  have h1 := of_any s W (by omega)
  have hG := tksB_good s.data.toList (by rw [Array.length_toList]; show s.size ≤ _; have := hfact.2; omega)
  have hv : parseV (tksB s.data.toList) = none := hfact.1
  generalize tksB s.data.toList = ts at *
  clear hcell hs hfact hneg hbig hT
  go_wp2_with fail
  refine h1.mono ?_
  clear h1 c0
  rintro e w2 ⟨v2, rfl, hr2, b2⟩
  have h2 := parse_any v2 ts w2 (BtsAt.own hr2) (hO.next b2) hG
  rw [hv] at h2
  go_wp2_with fail
  refine h2.mono ?_
  clear h2
  rintro e w3 ⟨hcs, b3⟩
  have hb3 := below_next (below_next bb b2) b3
  rcases hcs with ⟨l, x, hl, _⟩ | ⟨_, rfl⟩
  · cases hl
  · clear hv hr2
    go_wp2
    go_ret
    exact ⟨rfl, hb3⟩

theorem selNone_met (os : Os) : laidMet Tryd.prog Rows.selNoneRow.laid ((laidIn (World.holding Tryd.prog os ⟨#[], #[], []⟩)).forCall (fun _ _ => 0) ⟨#[], #[.int .i64 0], []⟩).memory :=
  laidMet_of_run' 8 (by kernel_rfl) (by kernel_rfl)
theorem selNone_reads (os : Os) {H : Type} (enc : TypeId × Value → H) : ∃ places, DataW.whole enc Tryd.prog ((laidIn (World.holding Tryd.prog os ⟨#[], #[], []⟩)).forCall (fun _ _ => 0) ⟨#[], #[.int .i64 0], []⟩).memory Tryd.f5.params.toList Rows.selNoneSpec.vars false (#[.int .i64 0] : Array Value).toList 8 = some ([.lit (.int .i64 0)], [], places) :=
  ⟨[], by kernel_rfl⟩

set_option maxRecDepth 100000 in
theorem selNone_lifted (os : Os) (started : os.Started) (H : Type) (enc : TypeId × Value → H) (F : Stop.Interp) :
    ReturnsInHanded {} Tryd.checked os 5 .any ((OpenSpec.ofChange Rows.selNoneSpec).preRow enc Tryd.prog Tryd.f5 Rows.selNoneRow.domain false Rows.selNoneRow.laid) (((OpenSpec.ofChange Rows.selNoneSpec).at F).post enc Tryd.prog Tryd.f5 false true false false) := by
  obtain ⟨places, hx⟩ := selNone_reads os enc
  refine returnsInHanded_of_row (C := Tryd.checked) (s := OpenSpec.ofChange Rows.selNoneSpec) ownNone started (by kernel_rfl) Tryd.func5
    (witness_row_at (enc := enc) (C := Tryd.checked) false (laidIn (World.holding Tryd.prog os ⟨#[], #[], []⟩)) #[.int .i64 0] rfl (by kernel_rfl) (by kernel_rfl) (by kernel_rfl)
      (OpenSpec.preRow_of_cond 8 hx (by kernel_rfl) (fun k hk => by cases hk) (by kernel_rfl) (selNone_met os))) ?_
  intro W base args ds gs before hval hW _ _ _ hL hS _
  have hW' := hW
  obtain ⟨p, q, hA0, hV, rfl, hfz, hnd⟩ := hW
  have hA : DataW.TrodAll enc Tryd.prog W 0 (fun _ => true) true Tryd.f5.params.toList args.toList ds p := hA0
  rw [Tryd.params5] at hA hval
  obtain ⟨v0, vs0, d0, ds0, p0, q0, hargs, rfl, rfl, h0, r0⟩ := trodAll_cons hA
  obtain ⟨rfl, rfl, rfl⟩ := trodAll_nil r0
  obtain rfl : args = #[v0] := by cases args; simp_all
  obtain ⟨rfl, rfl⟩ := trodVars_none hV
  obtain ⟨a0, rfl, rfl, rfl, w0⟩ := open_int Tryd.underlying3 (hval 0 3 v0 rfl rfl) h0
  clear hA0
  refine (selNone_walk W (tabs_of_laid hL hS) a0 w0).mono fun e W' ⟨he, bel⟩ => ?_
  subst he
  exact ⟨_, rfl, _, _, _, [], _, [], hW', trodAll_mk1 (shut_bool Tryd.underlying4 _), (trodAll_cons_mk (shut_int Tryd.underlying3 w0) trodAll_mk0), rfl, bel.frame _, fun h => by cases h⟩

theorem selNone_said : Rows.SelNoneSaid :=
  OpenClaim.holds_of_cond 5 Tryd.f5 rfl rfl rfl rfl rfl rfl rfl ⟨rfl, rfl, rfl, rfl, rfl⟩ rfl rfl rfl rfl rfl (by kernel_rfl) Tryd.func5 (by kernel_rfl)
    (of_decide_eq_true (by kernel_rfl)) (by unfold Func.isWrapper; first | (rw [if_pos (by decide +kernel)]; kernel_rfl) | (rw [if_neg (by decide +kernel)]; exact ⟨rfl, rfl⟩))
    (fun os started H enc _ F => by rw [OpenClaim.pre_eq_preRow]; exact selNone_lifted os started H enc F)

theorem selNone_plain (f : FuncId) (fn : Func) (hf : Tryd.pinned.checked.prog.funcNamed "tapestrier/tapestrierlaw8.SelNone" = some f) (hfn : Tryd.pinned.checked.prog.funcs[f]? = some fn) :
    false = Tryd.pinned.checked.prog.looks [] ∧ ∀ (j : Nat) t, fn.params[j]? = some t → Tryd.pinned.checked.prog.wantsStandIn t = false := by
  obtain rfl : f = 5 := Option.some.inj ((show Tryd.prog.funcNamed "tapestrier/tapestrierlaw8.SelNone" = some 5 by kernel_rfl).symm.trans hf) |>.symm
  obtain rfl : fn = Tryd.f5 := (Option.some.inj (Tryd.func5.symm.trans hfn)).symm
  refine ⟨by kernel_rfl, fun j t ht => ?_⟩
  rw [Tryd.params5] at ht
  have hm : t ∈ [3] := by simpa using Array.mem_of_getElem? ht
  have hall : ([3].all fun u => !Tryd.prog.wantsStandIn u) = true := by kernel_rfl
  exact (show Tryd.prog.wantsStandIn t = false by simpa using List.all_eq_true.1 hall t hm)

theorem selNone_card : Rows.SelNoneCardSaid :=
  Claim7.holds_tied_plain_at .later [] _ _ _ _ selNone_said (fun _ h => by cases h) (by kernel_rfl) (fun _ h => by cases h) selNone_row_tie rfl ⟨rfl, rfl⟩ (by kernel_rfl) rfl selNone_plain (by kernel_rfl)
#print axioms selNone_card


end Go.Proofs.YtgaacafpcimbaabDoor
