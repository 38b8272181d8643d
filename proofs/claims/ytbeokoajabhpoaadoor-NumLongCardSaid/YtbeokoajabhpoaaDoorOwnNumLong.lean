/- For every integer, byte and bool: the law tapestrierlaw3.NumLong returns true and leaves its arguments as they were; conditions: the library's tables hold what its text lays (the card ties them to the program's text). -/
import Derived.Laws.IdiomStrings
import Derived.Deep.OwnRows
import Derived.Test.YtbeokoajabhpoaaDoorNmAlive
import Derived.Test.YtbeokoajabhpoaaDoorNmBack
import Derived.Test.YtbeokoajabhpoaaDoorNmLaid
namespace Go.Proofs.YtbeokoajabhpoaaDoor
open Go Go.ChangeShapes Go.WideShapes Go.ChangeAt Go.RowKit

/-- THE BLOCK g HOLDS THE BYTES f 0 .. f (n - 1), and they may be written. -/
def Row (W : World) (g n : Nat) (f : Nat → UInt8) : Prop := ∀ j, j < n → W.cell? ⟨g, j, none⟩ = some (.int .u8 (f j).toNat) ∧ W.frozen? ⟨g, j, none⟩ = false
theorem Row.set {W : World} {g n k : Nat} {f : Nat → UInt8} (h : Row W g n f) (hk : k < n) (u : UInt8) : Row (W.setCell ⟨g, k, none⟩ (.int .u8 u.toNat)) g n (fun j => if j = k then u else f j) := fun j hj => by
  refine ⟨?_, by rw [World.frozen?_setCell]; exact (h j hj).2⟩
  by_cases e : j = k
  · subst e
    simp only [if_true]
    exact World.cell?_setCell_same' _ _ _ (by rw [(h j hk).1]; rfl)
  · simp only [e, if_false]
    rw [World.cell?_setCell_other _ _ _ _ (by simp)]
    exact (h j hj).1
def upTo (c : UInt8) (k j : Nat) : UInt8 := if j < k then c else 0
theorem upTo_next (c : UInt8) (k : Nat) : (fun j => if j = k then c else upTo c k j) = upTo c (k + 1) := funext fun j => by
  unfold upTo
  by_cases e : j = k
  · subst e; simp
  · by_cases h : j < k
    · rw [if_neg e, if_pos h, if_pos (by omega)]
    · rw [if_neg e, if_neg h, if_neg (by omega)]
theorem row_made (w : World) (n : Nat) (c : UInt8) (t : TypeId) : Row (w.alloc (.cells (madeCells #[.int .u8 0] n) t)) w.heap.size n (upTo c 0) := fun j hj => by
  refine ⟨?_, World.frozen?_alloc_at _ _ _ _ rfl⟩
  rw [World.cell?_alloc_at _ _ _ _ rfl, ← Array.getElem?_toList, toList_madeCells_one, List.getElem?_replicate, if_pos hj]
  rfl
theorem back_out (W : World) (g n cap : Nat) (c : UInt8) (h : Row W g n (upTo c n)) :
    (convert 32 9 (.slice (some ⟨g, 0, none⟩) n cap)).run Tryd.prog W = .ok (.string ⟨(List.replicate n c).toArray⟩) W := by
  have := run_convert_bytes_back (P := Tryd.prog) W 32 9 5 ⟨g, 0, none⟩ cap (List.replicate n c) Tryd.underlying32 Tryd.underlying5 Tryd.underlying9 (fun j hj => by
    have hj' : j < n := by simpa using hj
    have := (h j hj').1
    rw [show (⟨g, 0, none⟩ : Addr).add j = ⟨g, j, none⟩ from by
      cases j with
      | zero => rfl
      | succ j => simp [Addr.add]]
    rw [this, upTo, if_pos hj', List.getElem_replicate])
  rw [List.length_replicate] at this
  exact this

theorem grow1_least {x : Int} {c : UInt8} (L : Int) (hc : 49 ≤ c.toNat) (h : L ≤ x) (hL : 10 * L + 1 ≤ 2147483647) (h0 : 0 ≤ L) : 10 * L + 1 ≤ grow1 x c := by
  unfold grow1 capI
  repeat' split
  all_goals omega
theorem grown_more {c : UInt8} (hc : 49 ≤ c.toNat) : ∀ (k : Nat) (x : Int), 11111111 ≤ x → 11111111 ≤ grown x (List.replicate k c)
  | 0, _, h => h
  | k + 1, x, h => grown_more hc k (grow1 x c) (by
    have := grow1_least 11111111 hc h (by decide) (by decide)
    omega)
theorem grown_long {c : UInt8} (hc : 49 ≤ c.toNat) (n : Nat) (h : 8 ≤ n) : 11111111 ≤ grown 0 (List.replicate n c) := by
  obtain ⟨k, rfl⟩ : ∃ k, n = 8 + k := ⟨n - 8, by omega⟩
  rw [← List.replicate_append_replicate, grown_append]
  refine grown_more hc k _ ?_
  have h1 := grow1_least (x := 0) 0 hc (by decide) (by decide) (by decide)
  have h2 := grow1_least _ hc h1 (by decide) (by decide)
  have h3 := grow1_least _ hc h2 (by decide) (by decide)
  have h4 := grow1_least _ hc h3 (by decide) (by decide)
  have h5 := grow1_least _ hc h4 (by decide) (by decide)
  have h6 := grow1_least _ hc h5 (by decide) (by decide)
  have h7 := grow1_least _ hc h6 (by decide) (by decide)
  have h8 := grow1_least _ hc h7 (by decide) (by decide)
  exact h8
theorem allDig_rep {c : UInt8} (hc : dig c = true) (n : Nat) : allDig (List.replicate n c) = true := List.all_eq_true.2 fun x hx => by rw [(List.mem_replicate.1 hx).2]; exact hc
theorem num_long {c : UInt8} (h1 : 49 ≤ c.toNat) (h2 : c.toNat ≤ 57) (n : Nat) (h : 8 ≤ n) {l : List UInt8} (hl : bare l = List.replicate n c) : numOk l = true ∧ numV l = 2147483647 := by
  have hd : dig c = true := dig_iff.2 (by omega)
  obtain ⟨k1, k2⟩ := num_flat hl (allDig_rep hd n) (by cases n with | zero => omega | succ n => simp [List.replicate])
  refine ⟨k1, ?_⟩
  have := grown_long h1 n h
  rw [k2, grown_three (by omega) (by decide) (by decide) (by decide), show ((48 : UInt8).toNat : Int) = 48 from rfl]
  omega
theorem num_long_up {c : UInt8} (h1 : 49 ≤ c.toNat) (h2 : c.toNat ≤ 57) (n : Nat) (h : 8 ≤ n) : numOk (List.replicate n c) = true ∧ numN (List.replicate n c) = 2147483647 := by
  have hd : dig c = true := dig_iff.2 (by omega)
  have hb : below (List.replicate n c) = false ∧ bare (List.replicate n c) = List.replicate n c := by
    cases n with
    | zero => omega
    | succ n => exact bare_dig _ hd
  obtain ⟨k1, k2⟩ := num_long h1 h2 n h hb.2
  exact ⟨k1, by rw [numN_up k1 hb.1, k2]⟩
theorem num_long_down {c : UInt8} (h1 : 49 ≤ c.toNat) (h2 : c.toNat ≤ 57) (n : Nat) (h : 8 ≤ n) : numOk (45 :: List.replicate n c) = true ∧ numN (45 :: List.replicate n c) = -2147483647 := by
  obtain ⟨k1, k2⟩ := num_long (l := 45 :: List.replicate n c) h1 h2 n h rfl
  exact ⟨k1, by rw [numN_down k1 rfl, k2]⟩

set_option maxRecDepth 100000 in
set_option maxHeartbeats 1000000 in
theorem numLong_walk (w : World) (hT : Tabs w.heap.size w) (n : Int) (_wa : (Lit.int .i64 n).wf = true) (d : Int) (_wd : (Lit.int .u8 d).wf = true) (bel : Bool) :
    Calls Tryd.prog 8 #[.int .i64 n, .int .u8 d, .bool bel] w fun e w' => e = .returned (.bool true) ∧ Below w.heap.size w w' := by
  have h0 := alive_any w hT
  by_cases hin : 8 ≤ n ∧ n ≤ 200 ∧ 1 ≤ d ∧ d ≤ 9
  · obtain ⟨i1, i2, i3, i4⟩ := hin
    obtain ⟨m, rfl⟩ : ∃ m : Nat, n = m := ⟨n.toNat, by omega⟩
    obtain ⟨c, hc⟩ : ∃ c : UInt8, (c.toNat : Int) = 48 + d := ⟨UInt8.ofNat (48 + d.toNat), by rw [ofNat_digit _ (by omega)]; omega⟩
    have hmk := run_make_row' (P := Tryd.prog) 32 5 (.int .u8 0) 1 Tryd.underlying32 (by kernel_rfl) rfl .i64 .i64 m (by omega) (by omega)
    obtain ⟨u1, u2⟩ := num_long_up (c := c) (by omega) (by omega) m (by omega)
    obtain ⟨v1, v2⟩ := num_long_down (c := c) (by omega) (by omega) m (by omega)
    go_enter Tryd.func8, Tryd.ntmps8
    go_wp2_with fail
    refine h0.mono ?_
    rintro e w1 ⟨rfl, b1⟩
    clear h0
    go_wp2
    go_loopw [9] (fun i wr => ∃ k : Nat, i = .int .i64 k ∧ k ≤ m ∧ Below w.heap.size w wr ∧ Row wr w1.heap.size m (upTo c k)) (fun i _ => m - (intOf i).toNat)
    case atStart => exact ⟨0, rfl, Nat.zero_le _, b1.alloc b1.size _, row_made w1 m c _⟩
    case round =>
      obtain ⟨k, rfl, hk, hb, hr⟩ := hrel
      clear hmk
      by_cases hlt : k < m
      · have hcl := (hr k hlt).1
        have hf := (hr k hlt).2
        have hrn := hr.set hlt c
        have hbn := hb.setCell (p := ⟨w1.heap.size, k, none⟩) b1.size (.int .u8 c.toNat)
        rw [upTo_next] at hrn
        rw [hc] at hrn hbn
        clear hr u1 u2 v1 v2
        go_wp2
        exact ⟨⟨k + 1, by go_num, by omega, hbn, hrn⟩, by simp [intOf]; omega⟩
      · have hke : k = m := by omega
        subst hke
        have hback := back_out wr w1.heap.size k k c hr
        obtain ⟨s, hs⟩ : ∃ s : ByteArray, s = ⟨(List.replicate k c).toArray⟩ := ⟨_, rfl⟩
        rw [← hs] at hback
        have hsl : s.data.toList = List.replicate k c := by rw [hs]
        have hsz : s.size = k := by rw [← len_list, hsl, List.length_replicate]
        clear hr hs
        cases bel with
        | false =>
          have h1 := of_any s wr (by omega) ((hT.below hb).mono hb.size)
          rw [hsl, u1, u2] at h1
          go_wp2_with fail
          refine h1.mono ?_
          rintro e w2 ⟨rfl, b2⟩
          go_wp2
          go_ret
          exact ⟨rfl, hb.trans (b2.mono hb.size)⟩
        | true =>
          obtain ⟨t, ht⟩ : ∃ t : ByteArray, (⟨#[45]⟩ : ByteArray) ++ s = t := ⟨_, rfl⟩
          have htl : t.data.toList = 45 :: List.replicate k c := by rw [← ht, data_app, hsl]; rfl
          have htz : t.size = k + 1 := by rw [← len_list, htl, List.length_cons, List.length_replicate]
          have h1 := of_any t wr (by omega) ((hT.below hb).mono hb.size)
          rw [htl, v1, v2] at h1
          go_wp2_with fail
          refine h1.mono ?_
          rintro e w2 ⟨rfl, b2⟩
          go_wp2
          go_ret
          exact ⟨rfl, hb.trans (b2.mono hb.size)⟩
  · have hout : n < 8 ∨ 200 < n ∨ d < 1 ∨ 9 < d := by omega
    clear hin
    have out : ∀ (K : Prop), (n < 8 → K) → (¬ n < 8 → 200 < n → K) → (¬ n < 8 → ¬ 200 < n → d < 1 → K) → (¬ n < 8 → ¬ 200 < n → ¬ d < 1 → 9 < d → K) → K := fun K k1 k2 k3 k4 => by
      by_cases e1 : n < 8
      · exact k1 e1
      · by_cases e2 : 200 < n
        · exact k2 e1 e2
        · by_cases e3 : d < 1
          · exact k3 e1 e2 e3
          · exact k4 e1 e2 e3 (by omega)
    clear hout
    refine out _ ?_ ?_ ?_ ?_ <;> clear out <;> intros
    all_goals
      go_enter Tryd.func8, Tryd.ntmps8
      go_wp2_with fail
      refine h0.mono ?_
      rintro e w1 ⟨rfl, b1⟩
      clear h0
      go_wp2
      go_ret
      exact ⟨rfl, b1⟩

theorem numLong_met (os : Os) : laidMet Tryd.prog Rows.numLongRow.laid ((laidIn (World.holding Tryd.prog os ⟨#[], #[], []⟩)).forCall (fun _ _ => 0) ⟨#[], #[.int .i64 0, .int .u8 0, .bool false], []⟩).memory :=
  laidMet_of_run' 8 (by kernel_rfl) (by kernel_rfl)
theorem numLong_reads (os : Os) {H : Type} (enc : TypeId × Value → H) : ∃ places, DataW.whole enc Tryd.prog ((laidIn (World.holding Tryd.prog os ⟨#[], #[], []⟩)).forCall (fun _ _ => 0) ⟨#[], #[.int .i64 0, .int .u8 0, .bool false], []⟩).memory Tryd.f8.params.toList Rows.numLongSpec.vars false (#[.int .i64 0, .int .u8 0, .bool false] : Array Value).toList 8 = some ([.lit (.int .i64 0), .lit (.int .u8 0), .lit (.bool false)], [], places) :=
  ⟨[], by kernel_rfl⟩

set_option maxRecDepth 100000 in
theorem numLong_lifted (os : Os) (started : os.Started) (H : Type) (enc : TypeId × Value → H) (F : Stop.Interp) :
    ReturnsInHanded {} Tryd.checked os 8 .any ((OpenSpec.ofChange Rows.numLongSpec).preRow enc Tryd.prog Tryd.f8 Rows.numLongRow.domain false Rows.numLongRow.laid) (((OpenSpec.ofChange Rows.numLongSpec).at F).post enc Tryd.prog Tryd.f8 false true false false) := by
  obtain ⟨places, hx⟩ := numLong_reads os enc
  refine returnsInHanded_of_row (C := Tryd.checked) (s := OpenSpec.ofChange Rows.numLongSpec) ownNone started (by kernel_rfl) Tryd.func8
    (witness_row_at (enc := enc) (C := Tryd.checked) false (laidIn (World.holding Tryd.prog os ⟨#[], #[], []⟩)) #[.int .i64 0, .int .u8 0, .bool false] rfl (by kernel_rfl) (by kernel_rfl) (by kernel_rfl)
      (OpenSpec.preRow_of_cond 8 hx (by kernel_rfl) (fun k hk => by cases hk) (by kernel_rfl) (numLong_met os))) ?_
  intro W base args ds gs before hval hW _ _ _ hL hS _
  have hW' := hW
  obtain ⟨p, q, hA0, hV, rfl, hfz, hnd⟩ := hW
  have hA : DataW.TrodAll enc Tryd.prog W 0 (fun _ => true) true Tryd.f8.params.toList args.toList ds p := hA0
  rw [Tryd.params8] at hA hval
  obtain ⟨v0, vs0, d0, ds0, p0, q0, hargs, rfl, rfl, h0, r0⟩ := trodAll_cons hA
  obtain ⟨v1, vs1, d1, ds1, p1, q1, rfl, rfl, rfl, h1, r1⟩ := trodAll_cons r0
  obtain ⟨v2, vs2, d2, ds2, p2, q2, rfl, rfl, rfl, h2, r2⟩ := trodAll_cons r1
  obtain ⟨rfl, rfl, rfl⟩ := trodAll_nil r2
  obtain rfl : args = #[v0, v1, v2] := by cases args; simp_all
  obtain ⟨rfl, rfl⟩ := trodVars_none hV
  obtain ⟨a0, rfl, rfl, rfl, w0⟩ := open_int Tryd.underlying3 (hval 0 3 v0 rfl rfl) h0
  obtain ⟨a1, rfl, rfl, rfl, w1⟩ := open_int Tryd.underlying5 (hval 1 5 v1 rfl rfl) h1
  obtain ⟨a2, rfl, rfl, rfl⟩ := open_bool Tryd.underlying4 (hval 2 4 v2 rfl rfl) h2
  clear hA0
  refine (numLong_walk W (tabs_of_laid hL hS) a0 w0 a1 w1 a2).mono fun e W' ⟨he, bel⟩ => ?_
  subst he
  exact ⟨_, rfl, _, _, _, [], _, [], hW', trodAll_mk1 (shut_bool Tryd.underlying4 _), (trodAll_cons_mk (shut_int Tryd.underlying3 w0) (trodAll_cons_mk (shut_int Tryd.underlying5 w1) (trodAll_cons_mk (shut_bool Tryd.underlying4 _) trodAll_mk0))), rfl, bel.frame _, fun h => by cases h⟩

theorem numLong_said : Rows.NumLongSaid :=
  OpenClaim.holds_of_cond 8 Tryd.f8 rfl rfl rfl rfl rfl rfl rfl ⟨rfl, rfl, rfl, rfl, rfl⟩ rfl rfl rfl rfl rfl (by kernel_rfl) Tryd.func8 (by kernel_rfl)
    (of_decide_eq_true (by kernel_rfl)) (by unfold Func.isWrapper; first | (rw [if_pos (by decide +kernel)]; kernel_rfl) | (rw [if_neg (by decide +kernel)]; exact ⟨rfl, rfl⟩))
    (fun os started H enc _ F => by rw [OpenClaim.pre_eq_preRow]; exact numLong_lifted os started H enc F)

theorem numLong_plain (f : FuncId) (fn : Func) (hf : Tryd.pinned.checked.prog.funcNamed "tapestrier/tapestrierlaw3.NumLong" = some f) (hfn : Tryd.pinned.checked.prog.funcs[f]? = some fn) :
    false = Tryd.pinned.checked.prog.looks [] ∧ ∀ (j : Nat) t, fn.params[j]? = some t → Tryd.pinned.checked.prog.wantsStandIn t = false := by
  obtain rfl : f = 8 := Option.some.inj ((show Tryd.prog.funcNamed "tapestrier/tapestrierlaw3.NumLong" = some 8 by kernel_rfl).symm.trans hf) |>.symm
  obtain rfl : fn = Tryd.f8 := (Option.some.inj (Tryd.func8.symm.trans hfn)).symm
  refine ⟨by kernel_rfl, fun j t ht => ?_⟩
  rw [Tryd.params8] at ht
  have hm : t ∈ [3, 5, 4] := by simpa using Array.mem_of_getElem? ht
  have hall : ([3, 5, 4].all fun u => !Tryd.prog.wantsStandIn u) = true := by kernel_rfl
  exact (show Tryd.prog.wantsStandIn t = false by simpa using List.all_eq_true.1 hall t hm)

theorem numLong_card : Rows.NumLongCardSaid :=
  Claim7.holds_tied_plain_at .later [] _ _ _ _ numLong_said (fun _ h => by cases h) (by kernel_rfl) (fun _ h => by cases h) numLong_row_tie rfl ⟨rfl, rfl⟩ (by kernel_rfl) rfl numLong_plain (by kernel_rfl)
#print axioms numLong_card

end Go.Proofs.YtbeokoajabhpoaaDoor
