/- For every slice of integers and every slice of tokens: the law tapestrierlaw5.RulesNest returns true and leaves its arguments as they were; no condition. -/
import Derived.Test.YtgfbgfcakblpoaaRsAlive
import Derived.Test.YtgfbgfcakblpoaaRsSame
import Derived.Test.YtgfbgfcakblpoaaRsArgs
namespace Go.Proofs.Ytgfbgfcakblpoaa
open Go Go.ChangeShapes Go.WideShapes Go.ChangeAt Go.RowKit

/-! ### plain -/
def goodP (p : Int × Int) : Prop := clos p.1 = p.2 ∧ 0 < p.2 ∧ p.2 ≠ 12 ∧ clos p.2 = 0
def ups (ps : List (Int × Int)) : List Int := ps.flatMap fun p => [p.1, 12]
def downs (ps : List (Int × Int)) : List Int := (ps.map Prod.snd).reverse
theorem ups_cons (p : Int × Int) (ps : List (Int × Int)) : ups (p :: ps) = p.1 :: 12 :: ups ps := rfl
theorem downs_cons (p : Int × Int) (ps : List (Int × Int)) : downs (p :: ps) = downs ps ++ [p.2] := by simp [downs]
theorem ups_length : ∀ ps : List (Int × Int), (ups ps).length = 2 * ps.length
  | [] => rfl
  | p :: ps => by rw [ups_cons, List.length_cons, List.length_cons, ups_length ps, List.length_cons]; omega
theorem downs_length (ps : List (Int × Int)) : (downs ps).length = ps.length := by simp [downs]
theorem opn_up {p : Int × Int} (h : goodP p) (st : List Int) : opn st p.1 = p.2 :: st := by rw [opn_open (by rw [h.1]; exact h.2.1), h.1]
theorem opn_semi {p : Int × Int} (h : goodP p) (st : List Int) : opn (p.2 :: st) 12 = p.2 :: st := by rw [opn_shut (by decide)]; simp [h.2.2.1]
theorem opn_down {p : Int × Int} (h : goodP p) (st : List Int) : opn (p.2 :: st) p.2 = st := by rw [opn_shut h.2.2.2]; simp
theorem run_up {p : Int × Int} (h : goodP p) (st r : List Int) : run st (p.1 :: 12 :: r) = 2 + run (p.2 :: st) r := by
  rw [run_cons_more _ (by rw [opn_up h]; simp), opn_up h, run_cons_more _ (by rw [opn_semi h]; simp), opn_semi h]
  omega
theorem run_ups : ∀ (ps : List (Int × Int)) (st : List Int), (∀ p ∈ ps, goodP p) → run st (ups ps) = 2 * ps.length
  | [], _, _ => rfl
  | p :: ps, st, h => by
    rw [ups_cons, run_up (h p List.mem_cons_self), run_ups ps _ (fun q hq => h q (List.mem_cons_of_mem _ hq)), List.length_cons]
    omega
theorem run_nest : ∀ (ps : List (Int × Int)) (c : Int) (st r : List Int), (∀ p ∈ ps, goodP p) → run (c :: st) (ups ps ++ (downs ps ++ r)) = 3 * ps.length + run (c :: st) r
  | [], _, _, _, _ => by simp [ups, downs]
  | p :: ps, c, st, r, h => by
    have hp := h p List.mem_cons_self
    rw [ups_cons, downs_cons, List.append_assoc, List.cons_append, List.cons_append, run_up hp, List.singleton_append, run_nest ps _ _ _ (fun q hq => h q (List.mem_cons_of_mem _ hq)), run_cons_more _ (by rw [opn_down hp]; simp), opn_down hp, List.length_cons]
    omega
theorem run_nest0 {ps : List (Int × Int)} (hne : ps ≠ []) (r : List Int) (h : ∀ p ∈ ps, goodP p) : run [] (ups ps ++ (downs ps ++ r)) = 3 * ps.length := by
  cases ps with
  | nil => exact absurd rfl hne
  | cons p ps =>
    have hp := h p List.mem_cons_self
    rw [ups_cons, downs_cons, List.append_assoc, List.cons_append, List.cons_append, run_up hp, List.singleton_append, run_nest ps _ _ _ (fun q hq => h q (List.mem_cons_of_mem _ hq)), run_cons_nil _ (opn_down hp _), List.length_cons]
    omega
theorem ups_append (a b : List (Int × Int)) : ups (a ++ b) = ups a ++ ups b := List.flatMap_append
theorem downs_append (a b : List (Int × Int)) : downs (a ++ b) = downs b ++ downs a := by simp [downs]
/-- Where the thing at 2 i ends. -/
theorem nest_at {ps : List (Int × Int)} {i : Nat} (hi : i < ps.length) (r : List Int) (h : ∀ p ∈ ps, goodP p) : run [] ((ups ps ++ (downs ps ++ r)).drop (2 * i)) = 3 * (ps.length - i) := by
  have e : ups ps ++ (downs ps ++ r) = ups (ps.take i) ++ (ups (ps.drop i) ++ (downs (ps.drop i) ++ (downs (ps.take i) ++ r))) := by
    conv => lhs; rw [← List.take_append_drop i ps]
    rw [ups_append, downs_append]
    simp
  rw [e, List.drop_left' (by rw [ups_length, List.length_take]; omega), run_nest0 (by simp; omega) _ (fun p hp => h p (List.mem_of_mem_drop hp)), List.length_drop]
theorem ups_at {ps : List (Int × Int)} {i : Nat} (hi : i < ps.length) (h : ∀ p ∈ ps, goodP p) : run [] ((ups ps).drop (2 * i)) = 2 * (ps.length - i) := by
  have e : ups ps = ups (ps.take i) ++ ups (ps.drop i) := by
    conv => lhs; rw [← List.take_append_drop i ps]
    rw [ups_append]
  rw [e, List.drop_left' (by rw [ups_length, List.length_take]; omega), run_ups _ _ (fun p hp => h p (List.mem_of_mem_drop hp)), List.length_drop]
theorem nest_one {ps : List (Int × Int)} (hne : ps ≠ []) (r : List Int) : run [] ((ups ps ++ r).drop 1) = 1 := by
  cases ps with
  | nil => exact absurd rfl hne
  | cons p ps => rw [ups_cons]; exact run_cons_nil _ (opn_nil (by decide))

/-! ### the tokens -/
def tk (k : Int) : Bt := ⟨k, ⟨#[]⟩, 0, false, 0⟩
def tks (ks : List Int) : List Bt := ks.map tk
theorem tks_append (a b : List Int) : tks (a ++ b) = tks a ++ tks b := List.map_append
theorem kds_tks (ks : List Int) : kds (tks ks) = ks := by
  unfold kds tks
  rw [List.map_map]
  exact List.map_id' ks
theorem tks_length (ks : List Int) : (tks ks).length = ks.length := List.length_map _
theorem and3 (z : Int) : ∃ j : Nat, j < 4 ∧ bits BinOp.and IntKind.i64 z 3 = (j : Int) := by
  have h : (BitVec.ofInt 64 z &&& BitVec.ofInt 64 3).toNat < 4 := by
    rw [BitVec.toNat_and]
    exact Nat.lt_of_le_of_lt Nat.and_le_right (by decide)
  refine ⟨_, h, ?_⟩
  show IntKind.i64.wrap ((BitVec.ofInt 64 z &&& BitVec.ofInt 64 3).toNat : Int) = _
  rw [IntKind.wrap_i64]
  omega
def pr (z : Int) : Int × Int := (([14, 16, 18, 20] : List Int).getD (bits BinOp.and IntKind.i64 z 3).toNat 0, ([15, 17, 19, 17] : List Int).getD (bits BinOp.and IntKind.i64 z 3).toNat 0)
theorem pr_at (z : Int) : ∃ j : Nat, j < 4 ∧ bits BinOp.and IntKind.i64 z 3 = (j : Int) ∧ ([14, 16, 18, 20] : List Int)[j]? = some (pr z).1 ∧ ([15, 17, 19, 17] : List Int)[j]? = some (pr z).2 ∧ goodP (pr z) := by
  obtain ⟨j, hj, e⟩ := and3 z
  refine ⟨j, hj, e, ?_⟩
  unfold pr goodP
  rw [e, Int.toNat_natCast]
  rcases (show j = 0 ∨ j = 1 ∨ j = 2 ∨ j = 3 by omega) with rfl | rfl | rfl | rfl <;> decide
theorem pr_good (zs : List Int) : ∀ p ∈ zs.map pr, goodP p := fun p hp => by
  obtain ⟨z, _, rfl⟩ := List.mem_map.1 hp
  obtain ⟨_, _, _, _, _, h⟩ := pr_at z
  exact h
theorem ints_get {n₀ : Nat} {X : World} {p : Option Addr} {n cap : Nat} {l : List Int} (h : IntsAt n₀ X (.slice p n cap) l) {k : Nat} {u : Int} (hk : l[k]? = some u) : ∃ bk off, p = some ⟨bk, off, none⟩ ∧ X.cell? ⟨bk, off + k, none⟩ = some (.int .i64 u) := by
  rcases h with ⟨rfl, _⟩ | ⟨bk, off, c, e, h1, h2, hb, h⟩
  · simp at hk
  · cases e
    exact ⟨bk, off, rfl, h k u hk⟩
theorem ups_next {zs : List Int} {k : Nat} (h : k < zs.length) : tks (ups ((zs.map pr).take (k + 1))) = tks (ups ((zs.map pr).take k)) ++ [tk (pr zs[k]).1, tk 12] := by
  rw [List.take_succ_eq_append_getElem (by simpa using h), ups_append, tks_append, List.getElem_map]
  rfl
theorem downs_next {zs : List Int} {k : Nat} (h : k < zs.length) : downs ((zs.map pr).drop k) = downs ((zs.map pr).drop (k + 1)) ++ [(pr zs[k]).2] := by
  rw [List.drop_eq_getElem_cons (by simpa using h), downs_cons, List.getElem_map]

set_option maxRecDepth 100000 in
set_option maxHeartbeats 2000000 in
theorem rulesNest_walk (w : World) (v : Value) (zs : List Int) (hv : IntsAt w.heap.size w v zs) (v' : Value) (ts : List Bt) (hv' : BtsAt w.heap.size w v' ts) :
    Calls Try.prog 8 #[v, v'] w fun e w' => e = .returned (.bool true) ∧ Below w.heap.size w w' := by
  have h0 := alive5_any w
  obtain ⟨i0, hi, hz0, hz1, hz2⟩ := info_parts infoTk5
  obtain ⟨p, cap, rfl⟩ := hv.len
  obtain ⟨p', cap', rfl⟩ := hv'.len
  go_enter Try.func8, Try.ntmps8
  go_wp2_with fail
  refine h0.mono ?_
  clear h0
  rintro e w1 ⟨rfl, b1⟩
  have hv1 := (hv.below b1).mono b1.size
  have hv1' := hv'.next b1
  have hbig := big_any _ ts w1 hv1'
  go_wp2_with fail
  refine hbig.mono ?_
  clear hbig
  rintro e w2 (⟨rfl, rfl⟩ | ⟨rfl, hlb, rfl⟩)
  · go_wp2
    go_ret
    exact ⟨rfl, b1⟩
  by_cases hn : 1 ≤ zs.length ∧ zs.length ≤ 30
  · have hn1 : ¬ (zs.length : Int) < 1 := by omega
    have hn2 : ¬ (30 : Int) < (zs.length : Int) := by omega
    go_wp2
    have hI1 := ints_new w2 [14, 16, 18, 20] 3 (by simp)
    have hI2 := ints_new (w2.alloc (.cells #[.int .i64 14, .int .i64 16, .int .i64 18, .int .i64 20] 3)) [15, 17, 19, 17] 3 (by simp)
    have z1 : (w2.alloc (.cells #[.int .i64 14, .int .i64 16, .int .i64 18, .int .i64 20] 3)).heap.size = w2.heap.size + 1 := World.size_alloc _ _
    have c1 : Below w2.heap.size w2 (w2.alloc (.cells #[.int .i64 14, .int .i64 16, .int .i64 18, .int .i64 20] 3)) := (Below.refl _ w2).alloc (Nat.le_refl _) _
    have c2 : Below (w2.heap.size + 1) (w2.alloc (.cells #[.int .i64 14, .int .i64 16, .int .i64 18, .int .i64 20] 3)) ((w2.alloc (.cells #[.int .i64 14, .int .i64 16, .int .i64 18, .int .i64 20] 3)).alloc (.cells #[.int .i64 15, .int .i64 17, .int .i64 19, .int .i64 17] 3)) := (Below.refl _ _).alloc (by rw [z1]; exact Nat.le_refl _) _
    have z2 : ((w2.alloc (.cells #[.int .i64 14, .int .i64 16, .int .i64 18, .int .i64 20] 3)).alloc (.cells #[.int .i64 15, .int .i64 17, .int .i64 19, .int .i64 17] 3)).heap.size = w2.heap.size + 2 := by rw [World.size_alloc, z1]
    rw [z1] at hI2
    have J1 : IntsAt (w2.heap.size + 2) ((w2.alloc (.cells #[.int .i64 14, .int .i64 16, .int .i64 18, .int .i64 20] 3)).alloc (.cells #[.int .i64 15, .int .i64 17, .int .i64 19, .int .i64 17] 3)) (.slice (some ⟨w2.heap.size, 0, none⟩) 4 4) [14, 16, 18, 20] := (IntsAt.below hI1 c2).mono (by omega)
    have J2 : IntsAt (w2.heap.size + 2) ((w2.alloc (.cells #[.int .i64 14, .int .i64 16, .int .i64 18, .int .i64 20] 3)).alloc (.cells #[.int .i64 15, .int .i64 17, .int .i64 19, .int .i64 17] 3)) (.slice (some ⟨w2.heap.size + 1, 0, none⟩) 4 4) [15, 17, 19, 17] := hI2
    have b0 := c1.trans (c2.mono (Nat.le_succ _))
    clear hI1 hI2 c1 c2
    generalize (w2.alloc (.cells #[.int .i64 14, .int .i64 16, .int .i64 18, .int .i64 20] 3)).alloc (.cells #[.int .i64 15, .int .i64 17, .int .i64 19, .int .i64 17] 3) = w0 at *
    rw [← z2] at J1 J2
    have hvI := (hv1.below b0).mono b0.size
    have hvT := hv1'.next b0
    have bw := below_next b1 b0
    clear hv hv' hv1 hv1' b0 z1
    go_loopw [9, 10] (fun o x wr => ∃ (k : Nat) (vt : Value), vt = o ∧ x = .int .i64 k ∧ k ≤ zs.length ∧ wr.ownsRow w0.heap.size 35 5 vt (2 * k) (btsCells (tks (ups ((zs.map pr).take k)))) ∧ Below w0.heap.size w0 wr) (fun _ x _ => zs.length - (intOf x).toNat)
    case atStart => exact ⟨0, _, rfl, rfl, Nat.zero_le _, World.ownsRow_nil _ _ _ _, Below.refl _ _⟩
    case round =>
      obtain ⟨k, vt, rfl, rfl, hk, hown, hb⟩ := hrel
      by_cases hlt : k < zs.length
      · have hki : (k : Int) < (zs.length : Int) := by omega
        obtain ⟨j, hj, hbits, e1, _, _⟩ := pr_at zs[k]
        obtain ⟨bk, off, rfl, hc⟩ := ints_get (hvI.below hb) (List.getElem?_eq_getElem hlt)
        obtain ⟨_, _, ep, hc2⟩ := ints_get (J1.below hb) e1
        cases ep
        rw [Nat.zero_add] at hc2
        have hj4 : (j : Int) < 4 := by omega
        have HN := ups_next hlt
        have hsz := hb.size
        clear e1
        generalize (pr zs[k]).1 = x at *
        generalize zs[k] = zk at *
        clear J1 J2 hvI hvT
        go_wp2_with (at_builtin; refine wpList_append_own _ rfl _ _ 22 rfl w0.heap.size 35 i0 (.agg #[.int .i64 0, .string ⟨#[]⟩, .int .i64 0, .bool false, .int .i64 0]) 5 48 Try.underlying22 hi hz0 hz1 hz2 rfl (by decide) _ _ _ rfl (World.ownsRow.alloc hown _) ⟨wr.heap.size, 0, none⟩ 2 2 (btCells (tk x) ++ btCells (tk 12)) rfl rfl (cells_new _ (btCells (tk x) ++ btCells (tk 12)) _) (fun u hu => by rcases List.mem_append.1 hu with h | h <;> exact Ref.btCells_one _ u h) (by unfold maxLen; omega) (by omega) (by simp; omega) ?_; intro v2 X2 own2 grow2 nil2)
        have B2 : Below w0.heap.size w0 X2 := (hb.alloc hsz _).grown grow2 (by rw [World.size_alloc]; omega) (fun j e => (World.ownsRow.lt hown j e).1)
        exact ⟨⟨k + 1, _, rfl, by go_num, by omega, by
          rw [HN, btsCells_append, show btsCells [tk x, tk 12] = btCells (tk x) ++ btCells (tk 12) by simp [btsCells]]
          exact own2, B2⟩, by simp [intOf]; omega⟩
      · have hki : ¬ (k : Int) < (zs.length : Int) := by omega
        obtain rfl : k = zs.length := by omega
        rw [List.take_of_length_le (by simp)] at hown
        obtain ⟨pt, ct, rfl⟩ := Stk_form hown
        go_wp2
        go_loopw [9, 12] (fun o x wy => ∃ (k : Nat) (z : Int) (vt : Value), vt = o ∧ x = .int .i64 z ∧ z = (k : Int) - 1 ∧ k ≤ zs.length ∧ wy.ownsRow w0.heap.size 35 5 vt (2 * zs.length + (zs.length - k)) (btsCells (tks (ups (zs.map pr)) ++ tks (downs ((zs.map pr).drop k)))) ∧ Below w0.heap.size w0 wy) (fun _ x _ => (intOf x + 1).toNat)
        case atStart =>
          refine ⟨zs.length, _, _, rfl, rfl, rfl, Nat.le_refl _, ?_, hb⟩
          rw [List.drop_eq_nil_iff.2 (by simp), Nat.sub_self, show tks (downs ([] : List (Int × Int))) = [] from rfl, List.append_nil, Nat.add_zero]
          exact hown
        case round =>
          rename World => Y
          obtain ⟨k, z, vt, rfl, rfl, hz, hk, hown2, hb2⟩ := hrel
          clear hown hb hki hlt
          cases k with
          | succ q =>
            obtain rfl : z = (q : Int) := by omega
            have hq : q < zs.length := by omega
            have hqi : (q : Int) < (zs.length : Int) := by omega
            have hq0 : (0 : Int) ≤ (q : Int) := by omega
            obtain ⟨j, hj, hbits, _, e2, _⟩ := pr_at zs[q]
            obtain ⟨bk, off, rfl, hc⟩ := ints_get (hvI.below hb2) (List.getElem?_eq_getElem hq)
            obtain ⟨_, _, ep, hc2⟩ := ints_get (J2.below hb2) e2
            cases ep
            rw [Nat.zero_add] at hc2
            have hj4 : (j : Int) < 4 := by omega
            have HN := downs_next hq
            have hsz := hb2.size
            clear e2
            generalize (pr zs[q]).2 = x at *
            generalize zs[q] = zk at *
            clear J1 J2 hvI hvT hz
            go_wp2_with (at_builtin; refine wpList_append_own _ rfl _ _ 22 rfl w0.heap.size 35 i0 (.agg #[.int .i64 0, .string ⟨#[]⟩, .int .i64 0, .bool false, .int .i64 0]) 5 48 Try.underlying22 hi hz0 hz1 hz2 rfl (by decide) _ _ _ rfl (World.ownsRow.alloc hown2 _) ⟨Y.heap.size, 0, none⟩ 1 1 (btCells (tk x)) rfl rfl (cells_new _ (btCells (tk x)) _) (Ref.btCells_one _) (by unfold maxLen; omega) (by omega) (by simp; omega) ?_; intro v2 X2 own2 grow2 nil2)
            have B2 : Below w0.heap.size w0 X2 := (hb2.alloc hsz _).grown grow2 (by rw [World.size_alloc]; omega) (fun j e => (World.ownsRow.lt hown2 j e).1)
            exact ⟨⟨q, (q : Int) - 1, _, rfl, by go_num, rfl, by omega, by
              rw [HN, tks_append, ← List.append_assoc, btsCells_append (_ ++ _), show btsCells (tks [x]) = btCells (tk x) by simp [btsCells, tks], show 2 * zs.length + (zs.length - q) = 2 * zs.length + (zs.length - (q + 1)) + 1 by omega]
              exact own2, B2⟩, by simp [intOf]⟩
          | zero =>
            have hzn : ¬ (0 : Int) ≤ z := by omega
            have hzn' : z < 0 := by omega
            clear hz
            rw [List.drop_zero, ← tks_append, Nat.sub_zero] at hown2
            have hgood := pr_good zs
            have hmp : (zs.map pr).length = zs.length := List.length_map _
            have hTl : (tks (ups (zs.map pr) ++ downs (zs.map pr))).length = 2 * zs.length + zs.length := by rw [tks_length, List.length_append, ups_length, downs_length, hmp]
            have K1 : ∀ k, k < zs.length → run [] ((kds (tks (ups (zs.map pr) ++ downs (zs.map pr)) ++ ts)).drop (2 * k)) = 3 * (zs.length - k) := fun k hk => by
              rw [kds_append, kds_tks, List.append_assoc, nest_at (by rw [hmp]; exact hk) _ hgood, hmp]
            have K2 : ∀ k, k < zs.length → run [] ((kds (tks (ups (zs.map pr)))).drop (2 * k)) = 2 * (zs.length - k) := fun k hk => by
              rw [kds_tks, ups_at (by rw [hmp]; exact hk) hgood, hmp]
            have K3 : run [] ((kds (tks (ups (zs.map pr) ++ downs (zs.map pr)) ++ ts)).drop 1) = 1 := by
              rw [kds_append, kds_tks, List.append_assoc, nest_one (fun e => by have := congrArg List.length e; rw [hmp, List.length_nil] at this; omega)]
            have TK : (tks (ups (zs.map pr) ++ downs (zs.map pr)) ++ ts).take (2 * zs.length) = tks (ups (zs.map pr)) := by
              rw [tks_append, List.append_assoc, List.take_left' (by rw [tks_length, ups_length, hmp])]
            have hUl : (tks (ups (zs.map pr))).length = 2 * zs.length := by rw [tks_length, ups_length, hmp]
            replace K1 : Hid _ := K1
            replace K2 : Hid _ := K2
            replace K3 : Hid _ := K3
            replace TK : Hid _ := TK
            have hT := BtsAt.of_owns hown2 hTl.symm
            obtain ⟨pt2, ct2, rfl⟩ := Stk_form hown2
            clear hown2 hgood hmp J1 J2 hvI
            generalize tks (ups (zs.map pr) ++ downs (zs.map pr)) = L at *
            generalize tks (ups (zs.map pr)) = U at *
            have hsT := hT.src
            have hvY := (hvT.below hb2).mono hb2.size
            go_wp2_with (first
              | (at_builtin; refine wpList_append_src _ rfl _ _ 22 rfl Y.heap.size 35 i0 (.agg #[.int .i64 0, .string ⟨#[]⟩, .int .i64 0, .bool false, .int .i64 0]) 5 48 Try.underlying22 hi hz0 hz1 hz2 rfl (by decide) _ 0 [] rfl (World.ownsRow_nil _ _ _ _) _ L.length (btsCells L) rfl (btsCells_length _) hsT (btsCells_one _) (by unfold maxLen; omega) (by omega) (Nat.le_refl _) ?_; intro v5 X5 own5 grow5; rw [Nat.zero_add, List.nil_append] at own5; have B5 : Below Y.heap.size Y X5 := (Below.refl _ Y).grown grow5 (Nat.le_refl _) (fun r e => by cases e); have hs5 := (hvY.next B5).src)
              | (at_builtin; refine wpList_append_src _ rfl _ _ 22 rfl Y.heap.size 35 i0 (.agg #[.int .i64 0, .string ⟨#[]⟩, .int .i64 0, .bool false, .int .i64 0]) 5 48 Try.underlying22 hi hz0 hz1 hz2 rfl (by decide) _ _ _ rfl own5 _ ts.length (btsCells ts) rfl (btsCells_length _) hs5 (btsCells_one _) (by unfold maxLen; omega) (by omega) B5.size ?_; intro v6 X6 own6 grow6))
            have B6 : Below Y.heap.size Y X6 := B5.grown grow6 B5.size (fun j e => (World.ownsRow.lt own5 j e).1)
            rw [← btsCells_append, hTl] at own6
            have TA := BtsAt.of_owns own6 (by rw [List.length_append, hTl])
            obtain ⟨pA, cA, rfl⟩ := Stk_form own6
            have BB := below_next bw (below_next hb2 B6)
            clear own5 own6 grow5 grow6 hsT hs5 hvY hT B5 B6 hvT hb2 bw
            go_loopw [14] (fun x wx => ∃ k : Nat, x = .int .i64 k ∧ k ≤ zs.length ∧ Below X6.heap.size X6 wx) (fun x _ => zs.length - (intOf x).toNat)
            case atStart => exact ⟨0, rfl, Nat.zero_le _, Below.refl _ _⟩
            case round =>
              rename World => V
              obtain ⟨k, rfl, hk3, hb3⟩ := hrel
              have TV := TA.next hb3
              have hne : 0 < (L ++ ts).length := by rw [List.length_append]; omega
              obtain ⟨bk, off, rfl, hbk, hcap, hcm, _⟩ := TV.get (List.getElem?_eq_getElem hne)
              rw [List.length_append] at hcap
              by_cases hlt3 : k < zs.length
              · have hk3i : (k : Int) < (zs.length : Int) := by omega
                have hs1 := skip_in _ (L ++ ts) (2 * k) V TV (by rw [List.length_append]; omega) (by rw [List.length_append]; omega)
                rw [K1 k hlt3, show ((2 * k + 3 * (zs.length - k) : Nat) : Int) = 2 * (zs.length : Int) + (zs.length : Int) - (k : Int) by omega, show ((2 * k : Nat) : Int) = 2 * (k : Int) by omega] at hs1
                have k2 := K2 k hlt3
                clear K1 K2 K3 TA
                go_wp2_with fail
                refine hs1.mono ?_
                clear hs1
                rintro e V2 ⟨rfl, c2⟩
                have hTk : BtsAt V2.heap.size V2 (.slice (some ⟨bk, off, none⟩) (2 * zs.length) cA) U := by
                  have := (TV.next c2).part (i := 0) (j := 2 * zs.length) (Nat.zero_le _) (by rw [List.length_append]; omega) hcm (fun e => by rw [e] at hne; simp at hne)
                  rw [List.drop_zero, Nat.zero_mul, Nat.add_zero, Nat.sub_zero, Nat.sub_zero, show (L ++ ts).take (2 * zs.length) = U from TK] at this
                  exact this
                have hs2 := skip_in _ U (2 * k) V2 hTk (by rw [hUl]; omega) (by rw [hUl]; omega)
                rw [k2, show ((2 * k + 2 * (zs.length - k) : Nat) : Int) = 2 * (zs.length : Int) by omega, show ((2 * k : Nat) : Int) = 2 * (k : Int) by omega] at hs2
                have hN : (2 * (zs.length : Int)).toNat = 2 * zs.length := by omega
                have h_a : (0 : Int) ≤ 2 * (zs.length : Int) := by omega
                have h_b : 2 * (zs.length : Int) ≤ (cA : Int) := by omega
                clear k2 hTk TV
                go_wp2_with fail
                refine hs2.mono ?_
                clear hs2
                rintro e V3 ⟨rfl, c3⟩
                go_wp2
                exact ⟨⟨k + 1, by go_num, by omega, below_next (below_next hb3 c2) c3⟩, by simp [intOf]; omega⟩
              · have hk3i : ¬ (k : Int) < (zs.length : Int) := by omega
                have hs1 := skip_in _ (L ++ ts) 1 V TV (by rw [List.length_append]; omega) (by rw [List.length_append]; omega)
                rw [show run [] ((kds (L ++ ts)).drop 1) = 1 from K3] at hs1
                clear K1 K2 K3 TA TV
                go_wp2_with fail
                refine hs1.mono ?_
                clear hs1
                rintro e V2 ⟨rfl, c2⟩
                go_wp2
                go_ret
                exact ⟨rfl, below_next (below_next BB hb3) c2⟩
  · by_cases hn1 : (zs.length : Int) < 1
    · go_wp2
      go_ret
      exact ⟨rfl, b1⟩
    · have hn2 : (30 : Int) < (zs.length : Int) := by omega
      go_wp2
      go_ret
      exact ⟨rfl, b1⟩


set_option maxRecDepth 100000 in
theorem rulesNest_lifted (os : Os) (started : os.Started) (H : Type) (enc : TypeId × Value → H) :
    ReturnsInHanded {} Try.checked os 8 .any (Rows.rulesNestSpec.pre6 enc Try.prog Try.f8 Rows.rulesNestRow.domain false) (Rows.rulesNestSpec.post enc Try.prog Try.f8 false true false false) := by
  refine returnsInHanded_of_change_sized (C := Try.checked) ownNone started (by kernel_rfl) Try.func8
    (ChangeSpec.witness6 (enc := enc) (C := Try.checked) false ⟨#[], #[.slice none 0 0, .slice none 0 0], []⟩ 8 (by kernel_rfl) (by kernel_rfl) (by kernel_rfl) (by kernel_rfl)) ?_
  intro W base args ds gs before hval hW _ hsz0 _
  have hW' := hW
  obtain ⟨p, q, hA0, hV, rfl, hfz, hnd⟩ := hW
  have hA : DataW.TrodAll enc Try.prog W 0 (fun _ => true) true Try.f8.params.toList args.toList ds p := hA0
  rw [Try.params8] at hA hval hsz0
  obtain ⟨v0, vs0, d0, ds0, p0, q0, hargs, rfl, rfl, h0, r0⟩ := trodAll_cons hA
  obtain ⟨v1, vs1, d1, ds1, p1, q1, rfl, rfl, rfl, h1, r1⟩ := trodAll_cons r0
  obtain ⟨rfl, rfl, rfl⟩ := trodAll_nil r1
  obtain rfl : args = #[v0, v1] := by cases args; simp_all
  obtain ⟨rfl, rfl⟩ := trodVars_none hV
  obtain ⟨a0, len0, cap0, rfl⟩ := okWide_slice Try.underlying39 (hval 0 39 v0 rfl rfl)
  have k0 := h0
  have lt0 : ∀ x ∈ p0, x.block < W.heap.size := by obtain ⟨m, hm⟩ := k0; exact DataW.trod_lt m _ _ _ hm
  obtain ⟨z0, w0⟩ := intsAt_of_reads k0
  obtain ⟨a1, len1, cap1, rfl⟩ := okWide_slice Try.underlying22 (hval 1 22 v1 rfl rfl)
  have k1 := h1
  have lt1 : ∀ x ∈ p1, x.block < W.heap.size := by obtain ⟨m, hm⟩ := k1; exact DataW.trod_lt m _ _ _ hm
  obtain ⟨z1, w1⟩ := tokensAt_of_reads k1
  clear hA0
  refine (rulesNest_walk W _ z0 w0 _ z1 w1).mono fun e W' ⟨he, bel⟩ => ?_
  subst he
  exact ⟨_, rfl, _, _, _, [], _, [], hW', trodAll_mk1 (shut_bool Try.underlying4 _), (trodAll_cons_mk (Below.trod laidOut (by kernel_rfl) (of_decide_eq_true (by kernel_rfl)) k0 bel lt0) (trodAll_cons_mk (Below.trod laidOut (by kernel_rfl) (of_decide_eq_true (by kernel_rfl)) k1 bel lt1) trodAll_mk0)), rfl, bel.frame _, fun h => by cases h⟩

theorem rulesNest_said : Rows.RulesNestSaid :=
  OpenClaim.holds_of_wide 8 Try.f8 rfl rfl rfl rfl rfl rfl rfl ⟨rfl, rfl, rfl, rfl, rfl⟩ rfl rfl rfl rfl rfl (by kernel_rfl) Try.func8 (by kernel_rfl)
    (of_decide_eq_true (by kernel_rfl)) (by unfold Func.isWrapper; first | (rw [if_pos (by decide +kernel)]; kernel_rfl) | (rw [if_neg (by decide +kernel)]; exact ⟨rfl, rfl⟩))
    (fun os started H enc _ => rulesNest_lifted os started H enc)
#print axioms rulesNest_said


end Go.Proofs.Ytgfbgfcakblpoaa
