/- For every integer: the law tapestrierlaw8.SelSome returns true and leaves its argument as it was; no condition (its card: the table of operators read off the program's text). -/
import Derived.Test.YtgaacafpcimbaabDoorSlAlv
import Derived.Test.YtgaacafpcimbaabDoorSlLaid
namespace Go.Proofs.YtgaacafpcimbaabDoor
open Go Go.ChangeShapes Go.WideShapes Go.ChangeAt Go.RowKit Sl
open Go.ChangeMaps (open_string shut_string)

def someT : List (ByteArray × Nat × Nat) := [(⟨#[97]⟩, 1, 1), (⟨#[42]⟩, 1, 1), (⟨#[32, 97, 32]⟩, 1, 1), (⟨#[97, 32, 98]⟩, 2, 1), (⟨#[97, 62, 98]⟩, 2, 1), (⟨#[97, 32, 62, 32, 98, 32, 43, 32, 99, 32, 126, 32, 100]⟩, 4, 1), (⟨#[97, 46, 98, 46, 99, 35, 100, 35, 101]⟩, 1, 1), (⟨#[91, 97, 93]⟩, 1, 1), (⟨#[91, 32, 97, 32, 61, 32, 39, 98, 32, 99, 39, 32, 93]⟩, 1, 1), (⟨#[91, 97, 124, 61, 98, 93, 91, 99, 94, 61, 34, 34, 93]⟩, 1, 1), (⟨#[58, 114, 111, 111, 116]⟩, 1, 1), (⟨#[58, 70, 73, 82, 83, 84, 45, 67, 72, 73, 76, 68]⟩, 1, 1), (⟨#[58, 110, 116, 104, 45, 99, 104, 105, 108, 100, 40, 32, 45, 51, 32, 41]⟩, 1, 1), (⟨#[58, 110, 111, 116, 40, 97, 32, 98, 44, 32, 58, 105, 115, 40, 99, 32, 62, 32, 100, 41, 41]⟩, 1, 1), (⟨#[97, 44, 98, 32, 44, 32, 99]⟩, 1, 3), (⟨#[46, 97, 46, 98, 32, 46, 99]⟩, 2, 1), (⟨#[97, 47, 42, 42, 47, 98]⟩, 0, 1), (⟨#[97, 47, 42, 42, 47, 32, 47, 42, 42, 47, 98]⟩, 2, 1), (⟨#[92, 54, 49, 32, 98]⟩, 1, 1), (⟨#[97, 92, 32, 98]⟩, 1, 1)]
def someOk (r : ByteArray × Nat × Nat) : Bool := decide (r.1.size ≤ 100) && (if r.2.1 = 0 then (ofV r.1).isNone else match ofV r.1 with
  | some (s :: l) => s.length == r.2.1 && (s :: l).length == r.2.2
  | _ => false)
theorem some_all : (someT.all someOk) = true := by decide +kernel
theorem some_n : ∀ (k : Nat) (r : ByteArray × Nat × Nat), someT[k]? = some r → r.2.2 = if k = 14 then 3 else 1
  | k, r, h => by
    have hk : k < 20 := (List.getElem?_eq_some_iff.1 h).1
    have : (List.range 20).all (fun k => match someT[k]? with | some r => decide (r.2.2 = if k = 14 then 3 else 1) | none => true) = true := by decide
    have := List.all_eq_true.1 this k (List.mem_range.2 hk)
    rw [h] at this
    simpa using this

set_option maxRecDepth 100000 in
set_option maxHeartbeats 4000000 in
theorem selSome_walk (w : World) (hT : OpsAt w.heap.size w) (n : Int) (_hn : (Lit.int .i64 n).wf = true) :
    Calls Tryd.prog 6 #[.int .i64 n] w fun e w' => e = .returned (.bool true) ∧ Below w.heap.size w w' := by
  have h0 := alive_any w hT
  go_enter Tryd.func6, Tryd.ntmps6
  go_wp2_with fail
  refine h0.mono ?_
  clear h0
  rintro e w1 ⟨rfl, b1⟩
  have bW : Below w1.heap.size w1 (w1.alloc (.cells #[.string ⟨#[97]⟩, .string ⟨#[42]⟩, .string ⟨#[32, 97, 32]⟩, .string ⟨#[97, 32, 98]⟩, .string ⟨#[97, 62, 98]⟩, .string ⟨#[97, 32, 62, 32, 98, 32, 43, 32, 99, 32, 126, 32, 100]⟩, .string ⟨#[97, 46, 98, 46, 99, 35, 100, 35, 101]⟩, .string ⟨#[91, 97, 93]⟩, .string ⟨#[91, 32, 97, 32, 61, 32, 39, 98, 32, 99, 39, 32, 93]⟩, .string ⟨#[91, 97, 124, 61, 98, 93, 91, 99, 94, 61, 34, 34, 93]⟩, .string ⟨#[58, 114, 111, 111, 116]⟩, .string ⟨#[58, 70, 73, 82, 83, 84, 45, 67, 72, 73, 76, 68]⟩, .string ⟨#[58, 110, 116, 104, 45, 99, 104, 105, 108, 100, 40, 32, 45, 51, 32, 41]⟩, .string ⟨#[58, 110, 111, 116, 40, 97, 32, 98, 44, 32, 58, 105, 115, 40, 99, 32, 62, 32, 100, 41, 41]⟩, .string ⟨#[97, 44, 98, 32, 44, 32, 99]⟩, .string ⟨#[46, 97, 46, 98, 32, 46, 99]⟩, .string ⟨#[97, 47, 42, 42, 47, 98]⟩, .string ⟨#[97, 47, 42, 42, 47, 32, 47, 42, 42, 47, 98]⟩, .string ⟨#[92, 54, 49, 32, 98]⟩, .string ⟨#[97, 92, 32, 98]⟩] 9)) := (Below.refl _ _).alloc (Nat.le_refl _) _
  have hcell : ∀ k r, someT[k]? = some r → (w1.alloc (.cells #[.string ⟨#[97]⟩, .string ⟨#[42]⟩, .string ⟨#[32, 97, 32]⟩, .string ⟨#[97, 32, 98]⟩, .string ⟨#[97, 62, 98]⟩, .string ⟨#[97, 32, 62, 32, 98, 32, 43, 32, 99, 32, 126, 32, 100]⟩, .string ⟨#[97, 46, 98, 46, 99, 35, 100, 35, 101]⟩, .string ⟨#[91, 97, 93]⟩, .string ⟨#[91, 32, 97, 32, 61, 32, 39, 98, 32, 99, 39, 32, 93]⟩, .string ⟨#[91, 97, 124, 61, 98, 93, 91, 99, 94, 61, 34, 34, 93]⟩, .string ⟨#[58, 114, 111, 111, 116]⟩, .string ⟨#[58, 70, 73, 82, 83, 84, 45, 67, 72, 73, 76, 68]⟩, .string ⟨#[58, 110, 116, 104, 45, 99, 104, 105, 108, 100, 40, 32, 45, 51, 32, 41]⟩, .string ⟨#[58, 110, 111, 116, 40, 97, 32, 98, 44, 32, 58, 105, 115, 40, 99, 32, 62, 32, 100, 41, 41]⟩, .string ⟨#[97, 44, 98, 32, 44, 32, 99]⟩, .string ⟨#[46, 97, 46, 98, 32, 46, 99]⟩, .string ⟨#[97, 47, 42, 42, 47, 98]⟩, .string ⟨#[97, 47, 42, 42, 47, 32, 47, 42, 42, 47, 98]⟩, .string ⟨#[92, 54, 49, 32, 98]⟩, .string ⟨#[97, 92, 32, 98]⟩] 9)).cell? ⟨w1.heap.size, k, none⟩ = some (.string r.1) := fun k s h => by
    rw [cell_of_block (heap_alloc_new w1 _) k]
    show (someT.map fun r => Value.string r.1).toArray[k]? = _
    simp [h]
  go_upto_region 3 with fail
  generalize w1.alloc (.cells #[.string ⟨#[97]⟩, .string ⟨#[42]⟩, .string ⟨#[32, 97, 32]⟩, .string ⟨#[97, 32, 98]⟩, .string ⟨#[97, 62, 98]⟩, .string ⟨#[97, 32, 62, 32, 98, 32, 43, 32, 99, 32, 126, 32, 100]⟩, .string ⟨#[97, 46, 98, 46, 99, 35, 100, 35, 101]⟩, .string ⟨#[91, 97, 93]⟩, .string ⟨#[91, 32, 97, 32, 61, 32, 39, 98, 32, 99, 39, 32, 93]⟩, .string ⟨#[91, 97, 124, 61, 98, 93, 91, 99, 94, 61, 34, 34, 93]⟩, .string ⟨#[58, 114, 111, 111, 116]⟩, .string ⟨#[58, 70, 73, 82, 83, 84, 45, 67, 72, 73, 76, 68]⟩, .string ⟨#[58, 110, 116, 104, 45, 99, 104, 105, 108, 100, 40, 32, 45, 51, 32, 41]⟩, .string ⟨#[58, 110, 111, 116, 40, 97, 32, 98, 44, 32, 58, 105, 115, 40, 99, 32, 62, 32, 100, 41, 41]⟩, .string ⟨#[97, 44, 98, 32, 44, 32, 99]⟩, .string ⟨#[46, 97, 46, 98, 32, 46, 99]⟩, .string ⟨#[97, 47, 42, 42, 47, 98]⟩, .string ⟨#[97, 47, 42, 42, 47, 32, 47, 42, 42, 47, 98]⟩, .string ⟨#[92, 54, 49, 32, 98]⟩, .string ⟨#[97, 92, 32, 98]⟩] 9) = W0 at *
  have bV : Below W0.heap.size W0 (W0.alloc (.cells #[.int .i64 1, .int .i64 1, .int .i64 1, .int .i64 2, .int .i64 2, .int .i64 4, .int .i64 1, .int .i64 1, .int .i64 1, .int .i64 1, .int .i64 1, .int .i64 1, .int .i64 1, .int .i64 1, .int .i64 1, .int .i64 2, .int .i64 0, .int .i64 2, .int .i64 1, .int .i64 1] 3)) := (Below.refl _ _).alloc (Nat.le_refl _) _
  have hcell2 : ∀ k r, someT[k]? = some r → (W0.alloc (.cells #[.int .i64 1, .int .i64 1, .int .i64 1, .int .i64 2, .int .i64 2, .int .i64 4, .int .i64 1, .int .i64 1, .int .i64 1, .int .i64 1, .int .i64 1, .int .i64 1, .int .i64 1, .int .i64 1, .int .i64 1, .int .i64 2, .int .i64 0, .int .i64 2, .int .i64 1, .int .i64 1] 3)).cell? ⟨W0.heap.size, k, none⟩ = some (.int .i64 r.2.1) := fun k s h => by
    rw [cell_of_block (heap_alloc_new W0 _) k]
    show (someT.map fun r => Value.int .i64 r.2.1).toArray[k]? = _
    simp [h]
  have hlt0 : w1.heap.size < W0.heap.size := World.block_lt_of_cell? W0 ⟨w1.heap.size, 0, none⟩ (hcell 0 _ rfl)
  replace hcell : ∀ k r, someT[k]? = some r → (W0.alloc (.cells #[.int .i64 1, .int .i64 1, .int .i64 1, .int .i64 2, .int .i64 2, .int .i64 4, .int .i64 1, .int .i64 1, .int .i64 1, .int .i64 1, .int .i64 1, .int .i64 1, .int .i64 1, .int .i64 1, .int .i64 1, .int .i64 2, .int .i64 0, .int .i64 2, .int .i64 1, .int .i64 1] 3)).cell? ⟨w1.heap.size, k, none⟩ = some (.string r.1) := fun k r h => (bV.cell (p := ⟨w1.heap.size, k, none⟩) hlt0).trans (hcell k r h)
  go_upto_region 4 with fail
  generalize W0.alloc (.cells #[.int .i64 1, .int .i64 1, .int .i64 1, .int .i64 2, .int .i64 2, .int .i64 4, .int .i64 1, .int .i64 1, .int .i64 1, .int .i64 1, .int .i64 1, .int .i64 1, .int .i64 1, .int .i64 1, .int .i64 1, .int .i64 2, .int .i64 0, .int .i64 2, .int .i64 1, .int .i64 1] 3) = W at *
  have hlt1 : W0.heap.size < W.heap.size := World.block_lt_of_cell? W ⟨W0.heap.size, 0, none⟩ (hcell2 0 _ rfl)
  have bb := below_next (below_next b1 bW) bV
  have hO := ((hT.next b1).next bW).next bV
  by_cases hneg : n < 0
  · clear hcell hcell2
    go_wp2
    go_ret
    exact ⟨rfl, bb⟩
  by_cases hbig : 20 ≤ n
  · clear hcell hcell2
    go_wp2
    go_ret
    exact ⟨rfl, bb⟩
  obtain ⟨k, rfl⟩ : ∃ k : Nat, n = (k : Int) := ⟨n.toNat, by omega⟩
  have hk : k < 20 := by omega
  obtain ⟨r, hr⟩ : ∃ r, someT[k]? = some r := ⟨_, List.getElem?_eq_getElem (show k < someT.length from hk)⟩
  have hfact := List.all_eq_true.1 some_all r (List.mem_of_getElem? hr)
  have hn14 := some_n k r hr
  have c0 := hcell k r hr
  have c1 := hcell2 k r hr
  obtain ⟨s, pn, nn⟩ := r
  unfold someOk at hfact
  simp only [Bool.and_eq_true, decide_eq_true_eq] at hfact c0 c1 hn14
  obtain ⟨hsz, hfact⟩ := hfact
  have hki : (k : Int) < 20 := by omega
  have hki0 : ¬ (k : Int) < 0 := by omega
  have hki1 : ¬ (20 : Int) ≤ (k : Int) := by omega
  have h1 := of_any s W (by omega)
  have hG := tksB_good s.data.toList (by rw [Array.length_toList]; show s.size ≤ _; omega)
  unfold ofV at hfact
  generalize tksB s.data.toList = ts at *
  generalize w1.heap.size = B0 at *
  generalize W0.heap.size = B1 at *
  clear hcell hcell2 hr hneg hbig hT
  go_wp2_with fail
  refine h1.mono ?_
  clear h1 c0
  rintro e w2 ⟨v2, rfl, hr2, b2⟩
  have h2 := parse_any v2 ts w2 (BtsAt.own hr2) (hO.next b2) hG
  replace c1 := (b2.cell (p := ⟨B1, k, none⟩) hlt1).trans c1
  have hlt2 : B1 < w2.heap.size := Nat.lt_of_lt_of_le hlt1 b2.size
  go_wp2_with fail
  refine h2.mono ?_
  clear h2
  rintro e w3 ⟨hcs, b3⟩
  have hb3 := below_next (below_next bb b2) b3
  replace c1 := (b3.cell (p := ⟨B1, k, none⟩) hlt2).trans c1
  clear hr2
  by_cases hp0 : pn = 0
  · subst hp0
    rw [if_pos rfl] at hfact
    rcases hcs with ⟨l, x, hl, _⟩ | ⟨_, rfl⟩
    · rw [hl] at hfact
      cases hfact
    · clear hfact hn14
      go_wp2
      go_ret
      exact ⟨rfl, hb3⟩
  · rw [if_neg hp0] at hfact
    rcases hcs with ⟨l, x, hl, rfl, hx⟩ | ⟨hl, rfl⟩
    · rw [hl] at hfact
      match l, hfact with
      | t :: l, hfact =>
        simp only [Bool.and_eq_true, beq_iff_eq] at hfact
        obtain ⟨h3, h4⟩ := hfact
        obtain ⟨px, cx, rfl⟩ := hx.form
        obtain ⟨g, q, c, rfl, hlc, hcm, d0, _⟩ := SelsAt.sel hx (j := 0) rfl
        rw [h4] at *
        rw [h3] at d0
        clear hx hl
        have hpi : ((pn : Int) == 0) = false := by simpa using hp0
        by_cases h14 : k = 14
        · subst h14
          rw [if_pos rfl] at hn14
          subst hn14
          clear hp0
          go_wp2
          go_quiet (fail)
          go_wp2
          go_ret
          exact ⟨rfl, below_drewN' hb3 _⟩
        · rw [if_neg h14] at hn14
          subst hn14
          have h14i : ((k : Int) == 14) = false := by simp; omega
          clear hp0 h14
          go_wp2
          go_quiet (fail)
          go_wp2
          go_ret
          exact ⟨rfl, below_drewN' hb3 _⟩
    · rw [hl] at hfact
      cases hfact

theorem selSome_met (os : Os) : laidMet Tryd.prog Rows.selSomeRow.laid ((laidIn (World.holding Tryd.prog os ⟨#[], #[], []⟩)).forCall (fun _ _ => 0) ⟨#[], #[.int .i64 0], []⟩).memory :=
  laidMet_of_run' 8 (by kernel_rfl) (by kernel_rfl)
theorem selSome_reads (os : Os) {H : Type} (enc : TypeId × Value → H) : ∃ places, DataW.whole enc Tryd.prog ((laidIn (World.holding Tryd.prog os ⟨#[], #[], []⟩)).forCall (fun _ _ => 0) ⟨#[], #[.int .i64 0], []⟩).memory Tryd.f6.params.toList Rows.selSomeSpec.vars false (#[.int .i64 0] : Array Value).toList 8 = some ([.lit (.int .i64 0)], [], places) :=
  ⟨[], by kernel_rfl⟩

set_option maxRecDepth 100000 in
theorem selSome_lifted (os : Os) (started : os.Started) (H : Type) (enc : TypeId × Value → H) (F : Stop.Interp) :
    ReturnsInHanded {} Tryd.checked os 6 .any ((OpenSpec.ofChange Rows.selSomeSpec).preRow enc Tryd.prog Tryd.f6 Rows.selSomeRow.domain false Rows.selSomeRow.laid) (((OpenSpec.ofChange Rows.selSomeSpec).at F).post enc Tryd.prog Tryd.f6 false true false false) := by
  obtain ⟨places, hx⟩ := selSome_reads os enc
  refine returnsInHanded_of_row (C := Tryd.checked) (s := OpenSpec.ofChange Rows.selSomeSpec) ownNone started (by kernel_rfl) Tryd.func6
    (witness_row_at (enc := enc) (C := Tryd.checked) false (laidIn (World.holding Tryd.prog os ⟨#[], #[], []⟩)) #[.int .i64 0] rfl (by kernel_rfl) (by kernel_rfl) (by kernel_rfl)
      (OpenSpec.preRow_of_cond 8 hx (by kernel_rfl) (fun k hk => by cases hk) (by kernel_rfl) (selSome_met os))) ?_
  intro W base args ds gs before hval hW _ _ _ hL hS _
  have hW' := hW
  obtain ⟨p, q, hA0, hV, rfl, hfz, hnd⟩ := hW
  have hA : DataW.TrodAll enc Tryd.prog W 0 (fun _ => true) true Tryd.f6.params.toList args.toList ds p := hA0
  rw [Tryd.params6] at hA hval
  obtain ⟨v0, vs0, d0, ds0, p0, q0, hargs, rfl, rfl, h0, r0⟩ := trodAll_cons hA
  obtain ⟨rfl, rfl, rfl⟩ := trodAll_nil r0
  obtain rfl : args = #[v0] := by cases args; simp_all
  obtain ⟨rfl, rfl⟩ := trodVars_none hV
  obtain ⟨a0, rfl, rfl, rfl, w0⟩ := open_int Tryd.underlying3 (hval 0 3 v0 rfl rfl) h0
  clear hA0
  refine (selSome_walk W (tabs_of_laid hL hS) a0 w0).mono fun e W' ⟨he, bel⟩ => ?_
  subst he
  exact ⟨_, rfl, _, _, _, [], _, [], hW', trodAll_mk1 (shut_bool Tryd.underlying4 _), (trodAll_cons_mk (shut_int Tryd.underlying3 w0) trodAll_mk0), rfl, bel.frame _, fun h => by cases h⟩

theorem selSome_said : Rows.SelSomeSaid :=
  OpenClaim.holds_of_cond 6 Tryd.f6 rfl rfl rfl rfl rfl rfl rfl ⟨rfl, rfl, rfl, rfl, rfl⟩ rfl rfl rfl rfl rfl (by kernel_rfl) Tryd.func6 (by kernel_rfl)
    (of_decide_eq_true (by kernel_rfl)) (by unfold Func.isWrapper; first | (rw [if_pos (by decide +kernel)]; kernel_rfl) | (rw [if_neg (by decide +kernel)]; exact ⟨rfl, rfl⟩))
    (fun os started H enc _ F => by rw [OpenClaim.pre_eq_preRow]; exact selSome_lifted os started H enc F)

theorem selSome_plain (f : FuncId) (fn : Func) (hf : Tryd.pinned.checked.prog.funcNamed "tapestrier/tapestrierlaw8.SelSome" = some f) (hfn : Tryd.pinned.checked.prog.funcs[f]? = some fn) :
    false = Tryd.pinned.checked.prog.looks [] ∧ ∀ (j : Nat) t, fn.params[j]? = some t → Tryd.pinned.checked.prog.wantsStandIn t = false := by
  obtain rfl : f = 6 := Option.some.inj ((show Tryd.prog.funcNamed "tapestrier/tapestrierlaw8.SelSome" = some 6 by kernel_rfl).symm.trans hf) |>.symm
  obtain rfl : fn = Tryd.f6 := (Option.some.inj (Tryd.func6.symm.trans hfn)).symm
  refine ⟨by kernel_rfl, fun j t ht => ?_⟩
  rw [Tryd.params6] at ht
  have hm : t ∈ [3] := by simpa using Array.mem_of_getElem? ht
  have hall : ([3].all fun u => !Tryd.prog.wantsStandIn u) = true := by kernel_rfl
  exact (show Tryd.prog.wantsStandIn t = false by simpa using List.all_eq_true.1 hall t hm)

theorem selSome_card : Rows.SelSomeCardSaid :=
  Claim7.holds_tied_plain_at .later [] _ _ _ _ selSome_said (fun _ h => by cases h) (by kernel_rfl) (fun _ h => by cases h) selSome_row_tie rfl ⟨rfl, rfl⟩ (by kernel_rfl) rfl selSome_plain (by kernel_rfl)
#print axioms selSome_card


end Go.Proofs.YtgaacafpcimbaabDoor
