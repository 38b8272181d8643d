/- For every integer and every slice of tokens: the law tapestrierlaw7.ValueParse returns true and leaves its arguments as they were; no condition (its card: the table of words read off the program's text). -/
import Derived.Test.YtghjpefkeobfnaaDoorVlAlive
import Derived.Test.YtghjpefkeobfnaaDoorVlRefV
import Derived.Test.YtghjpefkeobfnaaDoorVlLaid
namespace Go.Proofs.YtghjpefkeobfnaaDoor
open Go Go.ChangeShapes Go.WideShapes Go.ChangeAt Go.RowKit Vl
open Go.ChangeMaps (open_string shut_string)

set_option maxRecDepth 100000 in
set_option maxHeartbeats 4000000 in
theorem valueParse_walk (w : World) (hS : WordsAt w.heap.size w) (p : Int) (_hp : (Lit.int .i64 p).wf = true) (v : Value) (ts : List Bt) (hv : BtsAt w.heap.size w v ts) (ht : ∀ t ∈ ts, t.text.size ≤ maxLen) :
    Calls Tryd.prog 3 #[.int .i64 p, v] w fun e w' => e = .returned (.bool true) ∧ Below w.heap.size w w' := by
  have h0 := alive7_any w hS
  have hl := hv.short
  obtain ⟨q, cap, rfl⟩ := hv.len
  go_enter Tryd.func3, Tryd.ntmps3
  go_wp2_with fail
  refine h0.mono ?_
  clear h0
  rintro e w1 ⟨rfl, b1⟩
  replace hS := hS.next b1
  replace hv := hv.next b1
  by_cases hn : 100 < ts.length
  · have hni : (100 : Int) < (ts.length : Int) := by omega
    clear hv hS ht
    go_wp2
    go_ret
    exact ⟨rfl, b1⟩
  have hni : ¬ (100 : Int) < (ts.length : Int) := by omega
  have HT : Hid (∀ t ∈ ts, t.text.size ≤ maxLen) := ht
  clear ht
  go_wp2
  go_loopw [6] (fun x wr => ∃ k : Nat, x = .int .i64 k ∧ k ≤ ts.length ∧ w1 = wr) (fun x _ => ts.length - (intOf x).toNat)
  case atStart => exact ⟨0, rfl, Nat.zero_le _, rfl⟩
  case round =>
    obtain ⟨k, rfl, hk, rfl⟩ := hrel
    by_cases hlt : k < ts.length
    · have hki : (k : Int) < (ts.length : Int) := by omega
      obtain ⟨bk, off, rfl, hbk, _, _, _, hc, _⟩ := hv.get (List.getElem?_eq_getElem hlt)
      generalize ts[k] = t at *
      clear hv
      by_cases hs : 300 < t.text.size
      · have hsi : (300 : Int) < (t.text.size : Int) := by omega
        go_wp2
        go_ret
        exact ⟨rfl, b1⟩
      · have hsi : ¬ (300 : Int) < (t.text.size : Int) := by omega
        go_wp2
        exact ⟨⟨k + 1, by go_num, by omega, trivial⟩, by simp [intOf]; omega⟩
    · have hki : ¬ (k : Int) < (ts.length : Int) := by omega
      have h1 := parse_any p _ ts w1 hS hv HT
      obtain ⟨V, hV⟩ : ∃ V, parseV p ts = V := ⟨_, rfl⟩
      have hr := fun X hX => refValue_any p (.slice q ts.length cap) ts X hX HT
      rw [hV] at h1
      simp only [hV] at hr
      clear hV
      obtain ⟨v1, v2, v3⟩ := V
      unfold ret at h1 hr
      go_wp2_with fail
      refine h1.mono ?_
      clear h1
      rintro e w2 ⟨rfl, b2⟩
      have bA : Below w2.heap.size w2 (w2.alloc (.cells #[.int .i64 v1, .int .i64 v2] 27)) := (Below.refl _ _).alloc (Nat.le_refl _) _
      have kA := Blk.new w2 27 [.int .i64 v1, .int .i64 v2]
      have hr2 := hr _ ((hv.next b2).next bA)
      have b3 := below_next (below_next b1 b2) bA
      clear hr hv hS
      replace kA : Blk (w2.alloc (.cells #[.int .i64 v1, .int .i64 v2] 27)) w2.heap.size _ _ := kA
      go_wp2_with fail
      generalize w2.alloc (.cells #[.int .i64 v1, .int .i64 v2] 27) = w3 at *
      refine hr2.mono ?_
      clear hr2
      rintro e w4 ⟨rfl, b4⟩
      have hB := kA.lt
      have kB := kA.below b4 hB
      have hB' := kB.lt
      obtain ⟨⟨c0, c1⟩, _⟩ := blk2 kB
      have b5 := below_next b3 b4
      go_wp2
      go_ret
      exact ⟨rfl, b5.alloc b5.size _⟩

theorem valueParse_met (os : Os) : laidMet Tryd.prog Rows.valueParseRow.laid ((laidIn (World.holding Tryd.prog os ⟨#[], #[], []⟩)).forCall (fun _ _ => 0) ⟨#[], #[.int .i64 0, .slice none 0 0], []⟩).memory :=
  laidMet_of_run' 8 (by kernel_rfl) (by kernel_rfl)
theorem valueParse_reads (os : Os) {H : Type} (enc : TypeId × Value → H) : ∃ places, DataW.whole enc Tryd.prog ((laidIn (World.holding Tryd.prog os ⟨#[], #[], []⟩)).forCall (fun _ _ => 0) ⟨#[], #[.int .i64 0, .slice none 0 0], []⟩).memory Tryd.f3.params.toList Rows.valueParseSpec.vars false (#[.int .i64 0, .slice none 0 0] : Array Value).toList 8 = some ([.lit (.int .i64 0), .nil], [], places) :=
  ⟨[], by kernel_rfl⟩

set_option maxRecDepth 100000 in
theorem valueParse_lifted (os : Os) (started : os.Started) (H : Type) (enc : TypeId × Value → H) (F : Stop.Interp) :
    ReturnsInHanded {} Tryd.checked os 3 .any ((OpenSpec.ofChange Rows.valueParseSpec).preRow enc Tryd.prog Tryd.f3 Rows.valueParseRow.domain false Rows.valueParseRow.laid) (((OpenSpec.ofChange Rows.valueParseSpec).at F).post enc Tryd.prog Tryd.f3 false true false false) := by
  obtain ⟨places, hx⟩ := valueParse_reads os enc
  refine returnsInHanded_of_row (C := Tryd.checked) (s := OpenSpec.ofChange Rows.valueParseSpec) ownNone started (by kernel_rfl) Tryd.func3
    (witness_row_at (enc := enc) (C := Tryd.checked) false (laidIn (World.holding Tryd.prog os ⟨#[], #[], []⟩)) #[.int .i64 0, .slice none 0 0] rfl (by kernel_rfl) (by kernel_rfl) (by kernel_rfl)
      (OpenSpec.preRow_of_cond 8 hx (by kernel_rfl) (fun k hk => by cases hk) (by kernel_rfl) (valueParse_met os))) ?_
  intro W base args ds gs before hval hW _ _ _ hL hS _
  have hW' := hW
  obtain ⟨p, q, hA0, hV, rfl, hfz, hnd⟩ := hW
  have hA : DataW.TrodAll enc Tryd.prog W 0 (fun _ => true) true Tryd.f3.params.toList args.toList ds p := hA0
  rw [Tryd.params3] at hA hval
  obtain ⟨v0, vs0, d0, ds0, p0, q0, hargs, rfl, rfl, h0, r0⟩ := trodAll_cons hA
  obtain ⟨v1, vs1, d1, ds1, p1, q1, rfl, rfl, rfl, h1, r1⟩ := trodAll_cons r0
  obtain ⟨rfl, rfl, rfl⟩ := trodAll_nil r1
  obtain rfl : args = #[v0, v1] := by cases args; simp_all
  obtain ⟨rfl, rfl⟩ := trodVars_none hV
  obtain ⟨a0, rfl, rfl, rfl, w0⟩ := open_int Tryd.underlying3 (hval 0 3 v0 rfl rfl) h0
  obtain ⟨a1, len1, cap1, rfl⟩ := okWide_slice Tryd.underlying22 (hval 1 22 v1 rfl rfl)
  have k1 := h1
  have lt1 : ∀ x ∈ p1, x.block < W.heap.size := by obtain ⟨m, hm⟩ := k1; exact DataW.trod_lt m _ _ _ hm
  obtain ⟨z1, w1, y1⟩ := tokensAt_of_reads k1
  clear hA0
  refine (valueParse_walk W (tabs_of_laid hL hS) a0 w0 _ z1 w1 y1).mono fun e W' ⟨he, bel⟩ => ?_
  subst he
  exact ⟨_, rfl, _, _, _, [], _, [], hW', trodAll_mk1 (shut_bool Tryd.underlying4 _), (trodAll_cons_mk (shut_int Tryd.underlying3 w0) (trodAll_cons_mk (Below.trod laidOut (by kernel_rfl) (of_decide_eq_true (by kernel_rfl)) k1 bel lt1) trodAll_mk0)), rfl, bel.frame _, fun h => by cases h⟩

theorem valueParse_said : Rows.ValueParseSaid :=
  OpenClaim.holds_of_cond 3 Tryd.f3 rfl rfl rfl rfl rfl rfl rfl ⟨rfl, rfl, rfl, rfl, rfl⟩ rfl rfl rfl rfl rfl (by kernel_rfl) Tryd.func3 (by kernel_rfl)
    (of_decide_eq_true (by kernel_rfl)) (by unfold Func.isWrapper; first | (rw [if_pos (by decide +kernel)]; kernel_rfl) | (rw [if_neg (by decide +kernel)]; exact ⟨rfl, rfl⟩))
    (fun os started H enc _ F => by rw [OpenClaim.pre_eq_preRow]; exact valueParse_lifted os started H enc F)

theorem valueParse_plain (f : FuncId) (fn : Func) (hf : Tryd.pinned.checked.prog.funcNamed "tapestrier/tapestrierlaw7.ValueParse" = some f) (hfn : Tryd.pinned.checked.prog.funcs[f]? = some fn) :
    false = Tryd.pinned.checked.prog.looks [] ∧ ∀ (j : Nat) t, fn.params[j]? = some t → Tryd.pinned.checked.prog.wantsStandIn t = false := by
  obtain rfl : f = 3 := Option.some.inj ((show Tryd.prog.funcNamed "tapestrier/tapestrierlaw7.ValueParse" = some 3 by kernel_rfl).symm.trans hf) |>.symm
  obtain rfl : fn = Tryd.f3 := (Option.some.inj (Tryd.func3.symm.trans hfn)).symm
  refine ⟨by kernel_rfl, fun j t ht => ?_⟩
  rw [Tryd.params3] at ht
  have hm : t ∈ [3, 22] := by simpa using Array.mem_of_getElem? ht
  have hall : ([3, 22].all fun u => !Tryd.prog.wantsStandIn u) = true := by kernel_rfl
  exact (show Tryd.prog.wantsStandIn t = false by simpa using List.all_eq_true.1 hall t hm)

theorem valueParse_card : Rows.ValueParseCardSaid :=
  Claim7.holds_tied_plain_at .later [] _ _ _ _ valueParse_said (fun _ h => by cases h) (by kernel_rfl) (fun _ h => by cases h) valueParse_row_tie rfl ⟨rfl, rfl⟩ (by kernel_rfl) rfl valueParse_plain (by kernel_rfl)
#print axioms valueParse_card


end Go.Proofs.YtghjpefkeobfnaaDoor
