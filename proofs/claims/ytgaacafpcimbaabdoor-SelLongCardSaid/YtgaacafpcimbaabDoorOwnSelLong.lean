/- For every integer: the law tapestrierlaw8.SelLong returns true and leaves its argument as it was; no condition (its card: the table of operators read off the program's text). -/
import Derived.Test.YtgaacafpcimbaabDoorSlAlv
import Derived.Test.YtgaacafpcimbaabDoorSlLaid
namespace Go.Proofs.YtgaacafpcimbaabDoor
open Go Go.ChangeShapes Go.WideShapes Go.ChangeAt Go.RowKit Sl
open Go.ChangeMaps (open_string shut_string)

def tK : Bt := ⟨13, ⟨#[]⟩, 0, false, 0⟩
def tA : Bt := ⟨1, ⟨#[97]⟩, 0, false, 0⟩
def tailL : Nat → List Bt
  | 0 => []
  | n + 1 => tK :: tA :: tailL n
def longL : Nat → List Bt
  | 0 => []
  | n + 1 => tA :: tailL n
theorem tailL_more : ∀ n, tailL n ++ [tK, tA] = tailL (n + 1)
  | 0 => rfl
  | n + 1 => by
    show tK :: tA :: (tailL n ++ [tK, tA]) = _
    rw [tailL_more n]
    rfl
theorem longL_more (n : Nat) : (longL (n + 1) ++ [tK]) ++ [tA] = longL (n + 2) := by
  show tA :: ((tailL n ++ [tK]) ++ [tA]) = tA :: tailL (n + 1)
  rw [List.append_assoc]
  exact congrArg _ (tailL_more n)
theorem tailL_len : ∀ n, (tailL n).length = 2 * n
  | 0 => rfl
  | n + 1 => by
    show (tailL n).length + 1 + 1 = _
    rw [tailL_len n]
    omega
theorem longL_len (n : Nat) : (longL n).length = 2 * n - 1 := by
  cases n with
  | zero => rfl
  | succ n =>
    show (tailL n).length + 1 = _
    rw [tailL_len]
    omega
def cpA : Cp := .mk ⟨#[97]⟩ [] [] [] []
theorem sel_one (L : Inner) (n : Nat) : selV L (tA :: tailL n) = some ([(0, cpA)], tailL n) := by
  have hc : compV L (tA :: tailL n) = some (cpA, tailL n) := by
    unfold compV
    have ht : tagV (tA :: tailL n) = (⟨#[97]⟩, tailL n) := rfl
    rw [ht]
    have hu : unitsV L ((tA :: tailL n).length + 1) (.mk ⟨#[97]⟩ [] [] [] []) (tailL n) = some (cpA, tailL n) := by
      cases n with
      | zero => rfl
      | succ n => rfl
    rw [hu]
    simp
  have hb : betwV (tailL n) = none := by
    cases n with
    | zero => rfl
    | succ n =>
      unfold betwV
      have hd : dropW (tailL (n + 1)) = tailL (n + 1) := rfl
      rw [hd]
      show (match combO tK with
        | some c => some (c, dropW (tA :: tailL n))
        | none => if (tailL (n + 1)).length < (tailL (n + 1)).length ∧ begC tK = true then some (1, tK :: tA :: tailL n) else none) = none
      rw [show combO tK = none from rfl]
      simp
  have hd : dropW (tailL n) = tailL n := by
    cases n with
    | zero => rfl
    | succ n => rfl
  show partsV L ((tA :: tailL n).length + 1) 0 [] (dropW (tA :: tailL n)) = _
  rw [show dropW (tA :: tailL n) = tA :: tailL n from rfl]
  simp only [partsV, hc, Option.bind_some, hb, hd, List.nil_append]
theorem list_long (L : Inner) : ∀ (n f : Nat) (pre : List Sel), n < f → listF L f pre (tA :: tailL n) = some (pre ++ List.replicate (n + 1) [(0, cpA)], [])
  | 0, f + 1, pre, _ => by
    simp only [listF, sel_one, Option.bind_some]
    rfl
  | n + 1, f + 1, pre, h => by
    simp only [listF, sel_one, Option.bind_some]
    show (if tK.kind = 13 then listF L f (pre ++ [[(0, cpA)]]) (tA :: tailL n) else _) = _
    rw [if_pos (show tK.kind = 13 from rfl), list_long L n f _ (by omega), List.append_assoc]
    rfl
theorem parse_longL (n : Nat) (hn : 1 ≤ n) : parseV (longL n) = if 1000 < 2 * n - 1 then none else some (List.replicate n [(0, cpA)]) := by
  obtain ⟨n, rfl⟩ : ∃ m, n = m + 1 := ⟨n - 1, by omega⟩
  have hl := longL_len (n + 1)
  unfold parseV
  rw [hl]
  by_cases h : 1000 < 2 * (n + 1) - 1
  · rw [if_pos h, if_pos h]
  · rw [if_neg h, if_neg h, listV_eq]
    rw [show listF (innerV 8) ((longL (n + 1)).length + 1) [] (longL (n + 1)) = some ([] ++ List.replicate (n + 1) [(0, cpA)], []) from list_long _ n _ _ (by rw [hl]; omega)]
    rfl
theorem tailL_good : ∀ n, ∀ t ∈ tailL n, t = tK ∨ t = tA
  | 0, t, h => by cases h
  | n + 1, t, h => by
    rcases List.mem_cons.1 h with h | h
    · exact .inl h
    · rcases List.mem_cons.1 h with h | h
      · exact .inr h
      · exact tailL_good n t h
theorem longL_good (n : Nat) : Sl.Good (longL n) := fun t ht => by
  have : t = tK ∨ t = tA := by
    cases n with
    | zero => cases ht
    | succ n =>
      rcases List.mem_cons.1 ht with h | h
      · exact .inr h
      · exact tailL_good n t h
  rcases this with rfl | rfl <;> decide
theorem infoTk8 : (Tryd.prog.info? 46).map (fun i => (i.zero, i.size, i.bytes)) = some (some (.agg #[.int .i64 0, .string ⟨#[]⟩, .int .i64 0, .bool false, .int .i64 0]), 5, 48) := by kernel_rfl

set_option maxRecDepth 100000 in
set_option maxHeartbeats 4000000 in
theorem selLong_walk (w : World) (hT : OpsAt w.heap.size w) (n : Int) (_hn : (Lit.int .i64 n).wf = true) :
    Calls Tryd.prog 7 #[.int .i64 n] w fun e w' => e = .returned (.bool true) ∧ Below w.heap.size w w' := by
  have h0 := alive_any w hT
  obtain ⟨i0, hi, hz0, hz1, hz2⟩ := info_parts infoTk8
  go_enter Tryd.func7, Tryd.ntmps7
  go_wp2_with fail
  refine h0.mono ?_
  clear h0
  rintro e w1 ⟨rfl, bb1⟩
  by_cases hneg : n < 495
  · go_wp2
    go_ret
    exact ⟨rfl, bb1⟩
  by_cases hbig : 505 < n
  · go_wp2
    go_ret
    exact ⟨rfl, bb1⟩
  obtain ⟨m, rfl⟩ : ∃ m : Nat, n = (m : Int) := ⟨n.toNat, by omega⟩
  have hm1 : 495 ≤ m := by omega
  have hm2 : m ≤ 505 := by omega
  have hO1 := hT.next bb1
  have hs1 := bb1.size
  go_wp2
  go_loopw [4, 5] (fun x y wr => ∃ (k : Nat) (out : Value), x = out ∧ y = .int .i64 k ∧ k ≤ m ∧ wr.ownsRow w1.heap.size 46 5 out (longL k).length (btsCells (longL k)) ∧ Below w1.heap.size w1 wr) (fun _ y _ => m - (intOf y).toNat)
  case atStart => exact ⟨0, _, rfl, rfl, Nat.zero_le _, World.ownsRow_nil _ _ _ _, Below.refl _ _⟩
  case round =>
    obtain ⟨k, out, rfl, rfl, hk, hr, hb⟩ := hrel
    have hsz := hb.size
    have hll := longL_len k
    obtain ⟨q, c, rfl⟩ := owns_form hr
    by_cases hlt : k < m
    · have hki : (k : Int) < (m : Int) := by omega
      have HK : ∀ u ∈ btCells tK, u.oneCell' = true := fun u hu => by simp [btCells] at hu; rcases hu with rfl | rfl | rfl | rfl | rfl <;> rfl
      have HA : ∀ u ∈ btCells tA, u.oneCell' = true := fun u hu => by simp [btCells] at hu; rcases hu with rfl | rfl | rfl | rfl | rfl <;> rfl
      by_cases hk0 : k = 0
      · subst hk0
        have rA := hr.alloc (.cells #[.int .i64 1, .string ⟨#[97]⟩, .int .i64 0, .bool false, .int .i64 0] 46)
        have hsA : w1.heap.size ≤ (wr.alloc (.cells #[.int .i64 1, .string ⟨#[97]⟩, .int .i64 0, .bool false, .int .i64 0] 46)).heap.size := by rw [World.size_alloc]; omega
        go_wp2_with (at_builtin; refine wpList_append_own _ rfl _ _ 29 rfl w1.heap.size 46 i0 (.agg #[.int .i64 0, .string ⟨#[]⟩, .int .i64 0, .bool false, .int .i64 0]) 5 48 Tryd.underlying29 hi hz0 hz1 hz2 rfl (by decide) (.slice q (longL 0).length c) _ _ rfl rA ⟨wr.heap.size, 0, none⟩ 1 1 (btCells tA) rfl rfl (cells_plain wr (btCells tA) _) HA (by unfold maxLen; omega) (by omega) hsA ?_; intro v4 w4 hown4 hgrow4 hnil4)
        have hb4 : Below w1.heap.size w1 w4 := (hb.alloc hsz _).grown hgrow4 hsA (fun j e => (owns_lt rA e).1)
        exact ⟨⟨1, v4, rfl, by go_num, by omega, hown4, hb4⟩, by simp [intOf]; omega⟩
      · have hkp : (0 : Int) < (k : Int) := by omega
        have rK := hr.alloc (.cells #[.int .i64 13, .string ⟨#[]⟩, .int .i64 0, .bool false, .int .i64 0] 46)
        have hsK : w1.heap.size ≤ (wr.alloc (.cells #[.int .i64 13, .string ⟨#[]⟩, .int .i64 0, .bool false, .int .i64 0] 46)).heap.size := by rw [World.size_alloc]; omega
        obtain ⟨k', rfl⟩ : ∃ k', k = k' + 1 := ⟨k - 1, by omega⟩
        have hml : (longL (k' + 1)).length ≤ 2000 := by omega
        clear hll
        go_wp2_with (at_builtin; first
          | (refine wpList_append_own _ rfl _ _ 29 rfl w1.heap.size 46 i0 (.agg #[.int .i64 0, .string ⟨#[]⟩, .int .i64 0, .bool false, .int .i64 0]) 5 48 Tryd.underlying29 hi hz0 hz1 hz2 rfl (by decide) (.slice q (longL (k' + 1)).length c) _ _ rfl rK ⟨wr.heap.size, 0, none⟩ 1 1 (btCells tK) rfl rfl (cells_plain wr (btCells tK) _) HK (by unfold maxLen; omega) (by omega) hsK ?_; intro v4 w4 hown4 hgrow4 hnil4; obtain ⟨q4, c4, rfl⟩ := owns_form hown4; have hb4 : Below w1.heap.size w1 w4 := (hb.alloc hsz _).grown hgrow4 hsK (fun j e => (owns_lt rK e).1); have rA := hown4.alloc (.cells #[.int .i64 1, .string ⟨#[97]⟩, .int .i64 0, .bool false, .int .i64 0] 46); have hsA : w1.heap.size ≤ (w4.alloc (.cells #[.int .i64 1, .string ⟨#[97]⟩, .int .i64 0, .bool false, .int .i64 0] 46)).heap.size := (by rw [World.size_alloc]; have := hb4.size; omega))
          | (refine wpList_append_own _ rfl _ _ 29 rfl w1.heap.size 46 i0 (.agg #[.int .i64 0, .string ⟨#[]⟩, .int .i64 0, .bool false, .int .i64 0]) 5 48 Tryd.underlying29 hi hz0 hz1 hz2 rfl (by decide) (.slice q4 ((longL (k' + 1)).length + 1) c4) _ _ rfl rA ⟨w4.heap.size, 0, none⟩ 1 1 (btCells tA) rfl rfl (cells_plain w4 (btCells tA) _) HA (by unfold maxLen; omega) (by omega) hsA ?_; intro v5 w5 hown5 hgrow5 hnil5))
        have hb5 : Below w1.heap.size w1 w5 := (hb4.alloc hb4.size _).grown hgrow5 hsA (fun j e => (owns_lt rA e).1)
        have hown6 : w5.ownsRow w1.heap.size 46 5 v5 (longL (k' + 2)).length (btsCells (longL (k' + 2))) := by
          rw [← longL_more, btsCells_append, btsCells_append, List.length_append, List.length_append]
          exact hown5
        exact ⟨⟨k' + 2, v5, rfl, by go_num, by omega, hown6, hb5⟩, by simp [intOf]; omega⟩
    · have hki : ¬ (k : Int) < (m : Int) := by omega
      obtain rfl : k = m := by omega
      have h2 := parse_any (.slice q (longL k).length c) (longL k) wr (BtsAt.own hr) (hO1.next hb) (longL_good k)
      rw [parse_longL k (by omega)] at h2
      have hbb := below_next bb1 hb
      clear hr hll
      generalize longL k = L at *
      go_wp2_with fail
      refine h2.mono ?_
      clear h2
      rintro e w3 ⟨hcs, b3⟩
      have hb3 := below_next hbb b3
      by_cases h1000 : 1000 < 2 * k - 1
      · rw [if_pos h1000] at hcs
        have hwm : IntKind.i64.wrap (2 * (k : Int)) = 2 * (k : Int) := by rw [IntKind.wrap_i64]; omega
        have hws : IntKind.i64.wrap (2 * (k : Int) - 1) = 2 * (k : Int) - 1 := by rw [IntKind.wrap_i64]; omega
        have hle : ¬ (2 * (k : Int) - 1) ≤ 1000 := by omega
        rcases hcs with ⟨l, x, hl, _⟩ | ⟨_, rfl⟩
        · cases hl
        · go_wp2
          go_ret
          refine ⟨?_, hb3⟩
          show Ending.returned (.bool (!decide (2 * (k : Int) - 1 ≤ 1000))) = _
          rw [decide_eq_false (by omega)]
          rfl
      · rw [if_neg h1000] at hcs
        have hwm : IntKind.i64.wrap (2 * (k : Int)) = 2 * (k : Int) := by rw [IntKind.wrap_i64]; omega
        have hws : IntKind.i64.wrap (2 * (k : Int) - 1) = 2 * (k : Int) - 1 := by rw [IntKind.wrap_i64]; omega
        have hle : (2 * (k : Int) - 1) ≤ 1000 := by omega
        rcases hcs with ⟨l, x, hl, rfl, hx⟩ | ⟨hl, _⟩
        · cases hl
          obtain ⟨px, cx, rfl⟩ := hx.form
          rw [List.length_replicate] at *
          clear hx
          go_wp2
          go_ret
          exact ⟨rfl, hb3⟩
        · cases hl

theorem selLong_met (os : Os) : laidMet Tryd.prog Rows.selLongRow.laid ((laidIn (World.holding Tryd.prog os ⟨#[], #[], []⟩)).forCall (fun _ _ => 0) ⟨#[], #[.int .i64 0], []⟩).memory :=
  laidMet_of_run' 8 (by kernel_rfl) (by kernel_rfl)
theorem selLong_reads (os : Os) {H : Type} (enc : TypeId × Value → H) : ∃ places, DataW.whole enc Tryd.prog ((laidIn (World.holding Tryd.prog os ⟨#[], #[], []⟩)).forCall (fun _ _ => 0) ⟨#[], #[.int .i64 0], []⟩).memory Tryd.f7.params.toList Rows.selLongSpec.vars false (#[.int .i64 0] : Array Value).toList 8 = some ([.lit (.int .i64 0)], [], places) :=
  ⟨[], by kernel_rfl⟩

set_option maxRecDepth 100000 in
theorem selLong_lifted (os : Os) (started : os.Started) (H : Type) (enc : TypeId × Value → H) (F : Stop.Interp) :
    ReturnsInHanded {} Tryd.checked os 7 .any ((OpenSpec.ofChange Rows.selLongSpec).preRow enc Tryd.prog Tryd.f7 Rows.selLongRow.domain false Rows.selLongRow.laid) (((OpenSpec.ofChange Rows.selLongSpec).at F).post enc Tryd.prog Tryd.f7 false true false false) := by
  obtain ⟨places, hx⟩ := selLong_reads os enc
  refine returnsInHanded_of_row (C := Tryd.checked) (s := OpenSpec.ofChange Rows.selLongSpec) ownNone started (by kernel_rfl) Tryd.func7
    (witness_row_at (enc := enc) (C := Tryd.checked) false (laidIn (World.holding Tryd.prog os ⟨#[], #[], []⟩)) #[.int .i64 0] rfl (by kernel_rfl) (by kernel_rfl) (by kernel_rfl)
      (OpenSpec.preRow_of_cond 8 hx (by kernel_rfl) (fun k hk => by cases hk) (by kernel_rfl) (selLong_met os))) ?_
  intro W base args ds gs before hval hW _ _ _ hL hS _
  have hW' := hW
  obtain ⟨p, q, hA0, hV, rfl, hfz, hnd⟩ := hW
  have hA : DataW.TrodAll enc Tryd.prog W 0 (fun _ => true) true Tryd.f7.params.toList args.toList ds p := hA0
  rw [Tryd.params7] at hA hval
  obtain ⟨v0, vs0, d0, ds0, p0, q0, hargs, rfl, rfl, h0, r0⟩ := trodAll_cons hA
  obtain ⟨rfl, rfl, rfl⟩ := trodAll_nil r0
  obtain rfl : args = #[v0] := by cases args; simp_all
  obtain ⟨rfl, rfl⟩ := trodVars_none hV
  obtain ⟨a0, rfl, rfl, rfl, w0⟩ := open_int Tryd.underlying3 (hval 0 3 v0 rfl rfl) h0
  clear hA0
  refine (selLong_walk W (tabs_of_laid hL hS) a0 w0).mono fun e W' ⟨he, bel⟩ => ?_
  subst he
  exact ⟨_, rfl, _, _, _, [], _, [], hW', trodAll_mk1 (shut_bool Tryd.underlying4 _), (trodAll_cons_mk (shut_int Tryd.underlying3 w0) trodAll_mk0), rfl, bel.frame _, fun h => by cases h⟩

theorem selLong_said : Rows.SelLongSaid :=
  OpenClaim.holds_of_cond 7 Tryd.f7 rfl rfl rfl rfl rfl rfl rfl ⟨rfl, rfl, rfl, rfl, rfl⟩ rfl rfl rfl rfl rfl (by kernel_rfl) Tryd.func7 (by kernel_rfl)
    (of_decide_eq_true (by kernel_rfl)) (by unfold Func.isWrapper; first | (rw [if_pos (by decide +kernel)]; kernel_rfl) | (rw [if_neg (by decide +kernel)]; exact ⟨rfl, rfl⟩))
    (fun os started H enc _ F => by rw [OpenClaim.pre_eq_preRow]; exact selLong_lifted os started H enc F)

theorem selLong_plain (f : FuncId) (fn : Func) (hf : Tryd.pinned.checked.prog.funcNamed "tapestrier/tapestrierlaw8.SelLong" = some f) (hfn : Tryd.pinned.checked.prog.funcs[f]? = some fn) :
    false = Tryd.pinned.checked.prog.looks [] ∧ ∀ (j : Nat) t, fn.params[j]? = some t → Tryd.pinned.checked.prog.wantsStandIn t = false := by
  obtain rfl : f = 7 := Option.some.inj ((show Tryd.prog.funcNamed "tapestrier/tapestrierlaw8.SelLong" = some 7 by kernel_rfl).symm.trans hf) |>.symm
  obtain rfl : fn = Tryd.f7 := (Option.some.inj (Tryd.func7.symm.trans hfn)).symm
  refine ⟨by kernel_rfl, fun j t ht => ?_⟩
  rw [Tryd.params7] at ht
  have hm : t ∈ [3] := by simpa using Array.mem_of_getElem? ht
  have hall : ([3].all fun u => !Tryd.prog.wantsStandIn u) = true := by kernel_rfl
  exact (show Tryd.prog.wantsStandIn t = false by simpa using List.all_eq_true.1 hall t hm)

theorem selLong_card : Rows.SelLongCardSaid :=
  Claim7.holds_tied_plain_at .later [] _ _ _ _ selLong_said (fun _ h => by cases h) (by kernel_rfl) (fun _ h => by cases h) selLong_row_tie rfl ⟨rfl, rfl⟩ (by kernel_rfl) rfl selLong_plain (by kernel_rfl)
#print axioms selLong_card


end Go.Proofs.YtgaacafpcimbaabDoor
