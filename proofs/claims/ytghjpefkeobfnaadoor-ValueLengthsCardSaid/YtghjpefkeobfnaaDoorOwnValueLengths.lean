/- For every two integers and every string: the law tapestrierlaw7.ValueLengths returns true and leaves its arguments as they were; no condition (its card: the table of words read off the program's text). -/
import Derived.Test.YtghjpefkeobfnaaDoorVlAlive
import Derived.Test.YtghjpefkeobfnaaDoorVlLaid
namespace Go.Proofs.YtghjpefkeobfnaaDoor
open Go Go.ChangeShapes Go.WideShapes Go.ChangeAt Go.RowKit Vl
open Go.ChangeMaps (open_string shut_string)

set_option maxRecDepth 100000 in
set_option maxHeartbeats 4000000 in
theorem valueLengths_walk (w : World) (hS : WordsAt w.heap.size w) (p : Int) (_hp : (Lit.int .i64 p).wf = true) (n : Int) (_hn : (Lit.int .i64 n).wf = true) (s : ByteArray) (hs : s.size ≤ maxLen) :
    Calls Tryd.prog 8 #[.int .i64 p, .int .i64 n, .string s] w fun e w' => e = .returned (.bool true) ∧ Below w.heap.size w w' := by
  have h0 := alive7_any w hS
  go_enter Tryd.func8, Tryd.ntmps8
  go_wp2_with fail
  refine h0.mono ?_
  clear h0
  rintro e w1 ⟨rfl, b1⟩
  replace hS := hS.next b1
  by_cases hn : 20 < s.size
  · have hni : (20 : Int) < (s.size : Int) := by omega
    clear hS
    go_wp2
    go_ret
    exact ⟨rfl, b1⟩
  have hni : ¬ (20 : Int) < (s.size : Int) := by omega
  have h1 := parse_new p ⟨8, s, n, false, 0⟩ w1 hS hs
  have hlow := fun X => Lw.refLower_any s X hs
  rw [parseV_dim] at h1
  generalize Lw.low s.data.toList = low at *
  obtain ⟨V, hV⟩ : ∃ V, (if low = pxT then lengthV p 2 n else if low = emT then lengthV p 3 n else no) = V := ⟨_, rfl⟩
  rw [hV] at h1
  obtain ⟨a1, a2, a3⟩ := V
  unfold ret at h1
  go_wp2_with fail
  refine h1.mono ?_
  clear h1
  rintro e w2 ⟨rfl, b2⟩
  have bA : Below w2.heap.size w2 (w2.alloc (.cells #[.int .i64 a1, .int .i64 a2] 27)) := (Below.refl _ _).alloc (Nat.le_refl _) _
  have kA : Blk (w2.alloc (.cells #[.int .i64 a1, .int .i64 a2] 27)) w2.heap.size _ _ := Blk.new w2 27 [.int .i64 a1, .int .i64 a2]
  have b3 := below_next (below_next b1 b2) bA
  have h2 := parse_new p ⟨7, ⟨#[]⟩, n, false, 0⟩ _ ((hS.next b2).next bA) (show (⟨#[]⟩ : ByteArray).size ≤ maxLen by decide)
  rw [parseV_pct] at h2
  obtain ⟨U, hU⟩ : ∃ U, lengthV p 4 n = U := ⟨_, rfl⟩
  rw [hU] at h2
  obtain ⟨u1, u2, u3⟩ := U
  unfold ret at h2
  have hsA : (w2.alloc (.cells #[.int .i64 a1, .int .i64 a2] 27)).heap.size = w2.heap.size + 1 := World.size_alloc _ _
  rw [hsA] at h2
  go_wp2_with fail
  rw [← hsA] at h2 ⊢
  generalize w2.alloc (.cells #[.int .i64 a1, .int .i64 a2] 27) = w3 at *
  refine h2.mono ?_
  clear h2 hsA
  rintro e w4 ⟨rfl, b4⟩
  have bB : Below w4.heap.size w4 (w4.alloc (.cells #[.int .i64 u1, .int .i64 u2] 27)) := (Below.refl _ _).alloc (Nat.le_refl _) _
  have kB : Blk (w4.alloc (.cells #[.int .i64 u1, .int .i64 u2] 27)) w4.heap.size _ _ := Blk.new w4 27 [.int .i64 u1, .int .i64 u2]
  have b5 := below_next (below_next b3 b4) bB
  have kA2 := ((kA.below b4 kA.lt).below bB (Nat.lt_of_lt_of_le kA.lt b4.size))
  go_wp2_with fail
  refine (hlow _).mono ?_
  clear hlow
  generalize w4.alloc (.cells #[.int .i64 u1, .int .i64 u2] 27) = w5 at *
  rintro e w6 ⟨rfl, b6'⟩
  have kA3 := kA2.below b6' kA2.lt
  have kB3 := kB.below b6' kB.lt
  have b6 := below_next b5 b6'
  obtain ⟨⟨x0, x1⟩, _⟩ := blk2 kA3
  obtain ⟨⟨y0, y1⟩, _⟩ := blk2 kB3
  clear kA kA2 kA3 kB kB3 bA bB b2 b3 b4 b5 b6' b1 hS hs
  by_cases hx : low = pxT
  · subst hx
    rw [if_pos rfl] at hV
    unfold pxT
    by_cases h5 : p = 5
    · subst h5
      obtain ⟨rfl, rfl, rfl⟩ : (2 : Int) = a1 ∧ n = a2 ∧ true = a3 := by unfold lengthV at hV; rw [if_pos (.inl rfl)] at hV; simpa using hV
      obtain ⟨rfl, rfl, rfl⟩ : (4 : Int) = u1 ∧ n = u2 ∧ true = u3 := by unfold lengthV at hU; rw [if_pos (.inl rfl)] at hU; simpa using hU
      clear hV hU
      go_wp2
      go_ret
      exact ⟨rfl, b6⟩
    have e5 : (p == 5) = false := by simpa using h5
    by_cases h0 : 0 ≤ n
    · by_cases h1 : p = 1
      · subst h1
        obtain ⟨rfl, rfl, rfl⟩ : (2 : Int) = a1 ∧ n = a2 ∧ true = a3 := by unfold lengthV at hV; rw [if_pos (.inr ⟨h0, .inl rfl⟩)] at hV; simpa using hV
        obtain ⟨rfl, rfl, rfl⟩ : (4 : Int) = u1 ∧ n = u2 ∧ true = u3 := by unfold lengthV at hU; rw [if_pos (.inr ⟨h0, .inl rfl⟩)] at hU; simpa using hU
        clear hV hU
        go_wp2
        go_ret
        exact ⟨rfl, b6⟩
      have e1 : (p == 1) = false := by simpa using h1
      by_cases h4 : p = 4
      · subst h4
        obtain ⟨rfl, rfl, rfl⟩ : (2 : Int) = a1 ∧ n = a2 ∧ true = a3 := by unfold lengthV at hV; rw [if_pos (.inr ⟨h0, .inr rfl⟩)] at hV; simpa using hV
        obtain ⟨rfl, rfl, rfl⟩ : (4 : Int) = u1 ∧ n = u2 ∧ true = u3 := by unfold lengthV at hU; rw [if_pos (.inr ⟨h0, .inr rfl⟩)] at hU; simpa using hU
        clear hV hU
        go_wp2
        go_ret
        exact ⟨rfl, b6⟩
      have e4 : (p == 4) = false := by simpa using h4
      obtain ⟨rfl, rfl, rfl⟩ : (0 : Int) = a1 ∧ (0 : Int) = a2 ∧ false = a3 := by unfold lengthV no at hV; rw [if_neg (by omega)] at hV; simpa using hV
      obtain ⟨rfl, rfl, rfl⟩ : (0 : Int) = u1 ∧ (0 : Int) = u2 ∧ false = u3 := by unfold lengthV no at hU; rw [if_neg (by omega)] at hU; simpa using hU
      clear h5 h1 h4
      clear hV hU
      go_wp2
      go_ret
      exact ⟨rfl, b6⟩
    · obtain ⟨rfl, rfl, rfl⟩ : (0 : Int) = a1 ∧ (0 : Int) = a2 ∧ false = a3 := by unfold lengthV no at hV; rw [if_neg (by omega)] at hV; simpa using hV
      obtain ⟨rfl, rfl, rfl⟩ : (0 : Int) = u1 ∧ (0 : Int) = u2 ∧ false = u3 := by unfold lengthV no at hU; rw [if_neg (by omega)] at hU; simpa using hU
      clear h5
      by_cases h1 : p = 1
      · subst h1
        clear hV hU
        go_wp2
        go_ret
        exact ⟨rfl, b6⟩
      have e1 : (p == 1) = false := by simpa using h1
      clear h1
      by_cases h4 : p = 4
      · subst h4
        clear hV hU
        go_wp2
        go_ret
        exact ⟨rfl, b6⟩
      have e4 : (p == 4) = false := by simpa using h4
      clear h4
      clear hV hU
      go_wp2
      go_ret
      exact ⟨rfl, b6⟩
  rw [if_neg hx] at hV
  have ex := px_ne hx
  clear hx
  by_cases hm : low = emT
  · subst hm
    rw [if_pos rfl] at hV
    unfold emT at ex ⊢
    by_cases h5 : p = 5
    · subst h5
      obtain ⟨rfl, rfl, rfl⟩ : (3 : Int) = a1 ∧ n = a2 ∧ true = a3 := by unfold lengthV at hV; rw [if_pos (.inl rfl)] at hV; simpa using hV
      obtain ⟨rfl, rfl, rfl⟩ : (4 : Int) = u1 ∧ n = u2 ∧ true = u3 := by unfold lengthV at hU; rw [if_pos (.inl rfl)] at hU; simpa using hU
      clear hV hU
      go_wp2
      go_ret
      exact ⟨rfl, b6⟩
    have e5 : (p == 5) = false := by simpa using h5
    by_cases h0 : 0 ≤ n
    · by_cases h1 : p = 1
      · subst h1
        obtain ⟨rfl, rfl, rfl⟩ : (3 : Int) = a1 ∧ n = a2 ∧ true = a3 := by unfold lengthV at hV; rw [if_pos (.inr ⟨h0, .inl rfl⟩)] at hV; simpa using hV
        obtain ⟨rfl, rfl, rfl⟩ : (4 : Int) = u1 ∧ n = u2 ∧ true = u3 := by unfold lengthV at hU; rw [if_pos (.inr ⟨h0, .inl rfl⟩)] at hU; simpa using hU
        clear hV hU
        go_wp2
        go_ret
        exact ⟨rfl, b6⟩
      have e1 : (p == 1) = false := by simpa using h1
      by_cases h4 : p = 4
      · subst h4
        obtain ⟨rfl, rfl, rfl⟩ : (3 : Int) = a1 ∧ n = a2 ∧ true = a3 := by unfold lengthV at hV; rw [if_pos (.inr ⟨h0, .inr rfl⟩)] at hV; simpa using hV
        obtain ⟨rfl, rfl, rfl⟩ : (4 : Int) = u1 ∧ n = u2 ∧ true = u3 := by unfold lengthV at hU; rw [if_pos (.inr ⟨h0, .inr rfl⟩)] at hU; simpa using hU
        clear hV hU
        go_wp2
        go_ret
        exact ⟨rfl, b6⟩
      have e4 : (p == 4) = false := by simpa using h4
      obtain ⟨rfl, rfl, rfl⟩ : (0 : Int) = a1 ∧ (0 : Int) = a2 ∧ false = a3 := by unfold lengthV no at hV; rw [if_neg (by omega)] at hV; simpa using hV
      obtain ⟨rfl, rfl, rfl⟩ : (0 : Int) = u1 ∧ (0 : Int) = u2 ∧ false = u3 := by unfold lengthV no at hU; rw [if_neg (by omega)] at hU; simpa using hU
      clear h5 h1 h4
      clear hV hU
      go_wp2
      go_ret
      exact ⟨rfl, b6⟩
    · obtain ⟨rfl, rfl, rfl⟩ : (0 : Int) = a1 ∧ (0 : Int) = a2 ∧ false = a3 := by unfold lengthV no at hV; rw [if_neg (by omega)] at hV; simpa using hV
      obtain ⟨rfl, rfl, rfl⟩ : (0 : Int) = u1 ∧ (0 : Int) = u2 ∧ false = u3 := by unfold lengthV no at hU; rw [if_neg (by omega)] at hU; simpa using hU
      clear h5
      by_cases h1 : p = 1
      · subst h1
        clear hV hU
        go_wp2
        go_ret
        exact ⟨rfl, b6⟩
      have e1 : (p == 1) = false := by simpa using h1
      clear h1
      by_cases h4 : p = 4
      · subst h4
        clear hV hU
        go_wp2
        go_ret
        exact ⟨rfl, b6⟩
      have e4 : (p == 4) = false := by simpa using h4
      clear h4
      clear hV hU
      go_wp2
      go_ret
      exact ⟨rfl, b6⟩
  rw [if_neg hm] at hV
  have em := em_ne hm
  clear hm
  generalize (⟨low.toArray⟩ : ByteArray) = z at *
  obtain ⟨rfl, rfl, rfl⟩ : (0 : Int) = a1 ∧ (0 : Int) = a2 ∧ false = a3 := by
    unfold no at hV
    simpa using hV
  clear hV
  by_cases h5 : p = 5
  · subst h5
    obtain ⟨rfl, rfl, rfl⟩ : (4 : Int) = u1 ∧ n = u2 ∧ true = u3 := by unfold lengthV at hU; rw [if_pos (.inl rfl)] at hU; simpa using hU
    clear hU
    go_wp2
    go_ret
    exact ⟨rfl, b6⟩
  have e5 : (p == 5) = false := by simpa using h5
  by_cases h0 : 0 ≤ n
  · by_cases h1 : p = 1
    · subst h1
      obtain ⟨rfl, rfl, rfl⟩ : (4 : Int) = u1 ∧ n = u2 ∧ true = u3 := by unfold lengthV at hU; rw [if_pos (.inr ⟨h0, .inl rfl⟩)] at hU; simpa using hU
      clear hU
      go_wp2
      go_ret
      exact ⟨rfl, b6⟩
    have e1 : (p == 1) = false := by simpa using h1
    by_cases h4 : p = 4
    · subst h4
      obtain ⟨rfl, rfl, rfl⟩ : (4 : Int) = u1 ∧ n = u2 ∧ true = u3 := by unfold lengthV at hU; rw [if_pos (.inr ⟨h0, .inr rfl⟩)] at hU; simpa using hU
      clear hU
      go_wp2
      go_ret
      exact ⟨rfl, b6⟩
    have e4 : (p == 4) = false := by simpa using h4
    obtain ⟨rfl, rfl, rfl⟩ : (0 : Int) = u1 ∧ (0 : Int) = u2 ∧ false = u3 := by unfold lengthV no at hU; rw [if_neg (by omega)] at hU; simpa using hU
    clear h5 h1 h4
    clear hU
    go_wp2
    go_ret
    exact ⟨rfl, b6⟩
  · obtain ⟨rfl, rfl, rfl⟩ : (0 : Int) = u1 ∧ (0 : Int) = u2 ∧ false = u3 := by unfold lengthV no at hU; rw [if_neg (by omega)] at hU; simpa using hU
    clear h5
    by_cases h1 : p = 1
    · subst h1
      clear hU
      go_wp2
      go_ret
      exact ⟨rfl, b6⟩
    have e1 : (p == 1) = false := by simpa using h1
    clear h1
    by_cases h4 : p = 4
    · subst h4
      clear hU
      go_wp2
      go_ret
      exact ⟨rfl, b6⟩
    have e4 : (p == 4) = false := by simpa using h4
    clear h4
    clear hU
    go_wp2
    go_ret
    exact ⟨rfl, b6⟩

theorem valueLengths_met (os : Os) : laidMet Tryd.prog Rows.valueLengthsRow.laid ((laidIn (World.holding Tryd.prog os ⟨#[], #[], []⟩)).forCall (fun _ _ => 0) ⟨#[], #[.int .i64 0, .int .i64 0, .string ⟨#[]⟩], []⟩).memory :=
  laidMet_of_run' 8 (by kernel_rfl) (by kernel_rfl)
theorem valueLengths_reads (os : Os) {H : Type} (enc : TypeId × Value → H) : ∃ places, DataW.whole enc Tryd.prog ((laidIn (World.holding Tryd.prog os ⟨#[], #[], []⟩)).forCall (fun _ _ => 0) ⟨#[], #[.int .i64 0, .int .i64 0, .string ⟨#[]⟩], []⟩).memory Tryd.f8.params.toList Rows.valueLengthsSpec.vars false (#[.int .i64 0, .int .i64 0, .string ⟨#[]⟩] : Array Value).toList 8 = some ([.lit (.int .i64 0), .lit (.int .i64 0), .lit (.string [])], [], places) :=
  ⟨[], by kernel_rfl⟩

set_option maxRecDepth 100000 in
theorem valueLengths_lifted (os : Os) (started : os.Started) (H : Type) (enc : TypeId × Value → H) (F : Stop.Interp) :
    ReturnsInHanded {} Tryd.checked os 8 .any ((OpenSpec.ofChange Rows.valueLengthsSpec).preRow enc Tryd.prog Tryd.f8 Rows.valueLengthsRow.domain false Rows.valueLengthsRow.laid) (((OpenSpec.ofChange Rows.valueLengthsSpec).at F).post enc Tryd.prog Tryd.f8 false true false false) := by
  obtain ⟨places, hx⟩ := valueLengths_reads os enc
  refine returnsInHanded_of_row (C := Tryd.checked) (s := OpenSpec.ofChange Rows.valueLengthsSpec) ownNone started (by kernel_rfl) Tryd.func8
    (witness_row_at (enc := enc) (C := Tryd.checked) false (laidIn (World.holding Tryd.prog os ⟨#[], #[], []⟩)) #[.int .i64 0, .int .i64 0, .string ⟨#[]⟩] rfl (by kernel_rfl) (by kernel_rfl) (by kernel_rfl)
      (OpenSpec.preRow_of_cond 8 hx (by kernel_rfl) (fun k hk => by cases hk) (by kernel_rfl) (valueLengths_met os))) ?_
  intro W base args ds gs before hval hW _ _ _ hL hS _
  have hW' := hW
  obtain ⟨p, q, hA0, hV, rfl, hfz, hnd⟩ := hW
  have hA : DataW.TrodAll enc Tryd.prog W 0 (fun _ => true) true Tryd.f8.params.toList args.toList ds p := hA0
  rw [Tryd.params8] at hA hval
  obtain ⟨v0, vs0, d0, ds0, p0, q0, hargs, rfl, rfl, h0, r0⟩ := trodAll_cons hA
  obtain ⟨v1, vs1, d1, ds1, p1, q1, rfl, rfl, rfl, h1, r1⟩ := trodAll_cons r0
  obtain ⟨v2, vs2, d2, ds2, p2, q2, rfl, rfl, rfl, h2, r2⟩ := trodAll_cons r1
  obtain ⟨rfl, rfl, rfl⟩ := trodAll_nil r2
  obtain rfl : args = #[v0, v1, v2] := by cases args; simp_all
  obtain ⟨rfl, rfl⟩ := trodVars_none hV
  obtain ⟨a0, rfl, rfl, rfl, w0⟩ := open_int Tryd.underlying3 (hval 0 3 v0 rfl rfl) h0
  obtain ⟨a1, rfl, rfl, rfl, w1⟩ := open_int Tryd.underlying3 (hval 1 3 v1 rfl rfl) h1
  obtain ⟨s2, rfl, rfl, rfl, w2⟩ := open_string Tryd.underlying9 (hval 2 9 v2 rfl rfl) h2
  clear hA0
  refine (valueLengths_walk W (tabs_of_laid hL hS) a0 w0 a1 w1 s2 w2).mono fun e W' ⟨he, bel⟩ => ?_
  subst he
  exact ⟨_, rfl, _, _, _, [], _, [], hW', trodAll_mk1 (shut_bool Tryd.underlying4 _), (trodAll_cons_mk (shut_int Tryd.underlying3 w0) (trodAll_cons_mk (shut_int Tryd.underlying3 w1) (trodAll_cons_mk (shut_string Tryd.underlying9 w2) trodAll_mk0))), rfl, bel.frame _, fun h => by cases h⟩

theorem valueLengths_said : Rows.ValueLengthsSaid :=
  OpenClaim.holds_of_cond 8 Tryd.f8 rfl rfl rfl rfl rfl rfl rfl ⟨rfl, rfl, rfl, rfl, rfl⟩ rfl rfl rfl rfl rfl (by kernel_rfl) Tryd.func8 (by kernel_rfl)
    (of_decide_eq_true (by kernel_rfl)) (by unfold Func.isWrapper; first | (rw [if_pos (by decide +kernel)]; kernel_rfl) | (rw [if_neg (by decide +kernel)]; exact ⟨rfl, rfl⟩))
    (fun os started H enc _ F => by rw [OpenClaim.pre_eq_preRow]; exact valueLengths_lifted os started H enc F)

theorem valueLengths_plain (f : FuncId) (fn : Func) (hf : Tryd.pinned.checked.prog.funcNamed "tapestrier/tapestrierlaw7.ValueLengths" = some f) (hfn : Tryd.pinned.checked.prog.funcs[f]? = some fn) :
    false = Tryd.pinned.checked.prog.looks [] ∧ ∀ (j : Nat) t, fn.params[j]? = some t → Tryd.pinned.checked.prog.wantsStandIn t = false := by
  obtain rfl : f = 8 := Option.some.inj ((show Tryd.prog.funcNamed "tapestrier/tapestrierlaw7.ValueLengths" = some 8 by kernel_rfl).symm.trans hf) |>.symm
  obtain rfl : fn = Tryd.f8 := (Option.some.inj (Tryd.func8.symm.trans hfn)).symm
  refine ⟨by kernel_rfl, fun j t ht => ?_⟩
  rw [Tryd.params8] at ht
  have hm : t ∈ [3, 9] := by simpa using Array.mem_of_getElem? ht
  have hall : ([3, 9].all fun u => !Tryd.prog.wantsStandIn u) = true := by kernel_rfl
  exact (show Tryd.prog.wantsStandIn t = false by simpa using List.all_eq_true.1 hall t hm)

theorem valueLengths_card : Rows.ValueLengthsCardSaid :=
  Claim7.holds_tied_plain_at .later [] _ _ _ _ valueLengths_said (fun _ h => by cases h) (by kernel_rfl) (fun _ h => by cases h) valueLengths_row_tie rfl ⟨rfl, rfl⟩ (by kernel_rfl) rfl valueLengths_plain (by kernel_rfl)
#print axioms valueLengths_card


end Go.Proofs.YtghjpefkeobfnaaDoor
