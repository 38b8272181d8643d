/- For every rows of hashes and every two numbers: the law tapestrierlaw13.BloomKeeps returns true and leaves its arguments as they were; no condition. -/
import Derived.Test.YteklgelmakbmcaaBlHas
import Derived.Test.YteklgelmakbmcaaBlCnt
import Derived.Test.YteklgelmakbmcaaBlArgs
namespace Go.Proofs.Yteklgelmakbmcaa
open Go.Proofs.Yteklgelmakbmcaa.Tre
open Go Go.ChangeShapes Go.WideShapes Go.ChangeAt Go.RowKit Bl Wg

theorem RowsR.get {w : World} {p : Option Addr} {m cap : Nat} {l : List (List Int)} (h : RowsR w (.slice p m cap) l) {i : Nat} {r : List Int} (hi : l[i]? = some r) :
    ∃ b off q c, p = some ⟨b, off, none⟩ ∧ (∀ X, Below w.heap.size w X → X.cell? ⟨b, off + i, none⟩ = some (.slice q r.length c)) ∧ IntsR w (.slice q r.length c) r ∧ r.length ≤ maxLen := by
  obtain ⟨b, off, c, e, hlt, _, _, _, ⟨x, rfl, hx⟩, hc⟩ := RowT.get h hi
  obtain ⟨q, c, rfl⟩ := hx.len
  exact ⟨b, off, q, c, e, fun X hb => (hb.cell (p := ⟨b, off + i, none⟩) hlt).trans (by simpa using hc 0 _ rfl), hx, hx.short⟩
theorem getD_at {l : List (List Int)} {i : Nat} {r : List Int} (h : l[i]? = some r) : l.getD i [] = r := by simp [List.getD, h]

set_option maxRecDepth 100000 in
set_option maxHeartbeats 4000000 in
theorem bloomKeeps_walk (w : World) (v : Value) (rows : List (List Int)) (hrows : RowsR w v rows) (n : Int) (_h1 : (Lit.int .i64 n).wf = true) (many : Int) (_h2 : (Lit.int .i64 many).wf = true) :
    Calls Try.prog 5 #[v, .int .i64 n, .int .i64 many] w fun e w' => e = .returned (.bool true) ∧ Below w.heap.size w w' := by
  have hal := alive_any w
  obtain ⟨p, cap, rfl⟩ := RowT.len hrows
  have HR : Hid (RowsR w (.slice p rows.length cap) rows) := hrows
  have hmx := RowT.short hrows
  unfold maxLen at hmx
  clear hrows
  go_enter Try.func5, Try.ntmps5
  go_wp2_with fail
  go_at_call 9
  refine Calls.mono hal ?_
  clear hal _h1 _h2
  rintro e w1 ⟨rfl, b1⟩
  by_cases g1 : 30 < rows.length
  · have d1 : decide (30 < rows.length) = true := by simpa using g1
    have d1' : decide ((30 : Int) < (rows.length : Int)) = true := by simp; omega
    clear g1
    go_wp2
    go_ret
    exact ⟨rfl, b1⟩
  have d1 : decide (30 < rows.length) = false := by simpa using g1
  have d1' : decide ((30 : Int) < (rows.length : Int)) = false := by simp; omega
  by_cases g2 : n < 0
  · have d2 : decide (n < 0) = true := by simpa using g2
    clear g1 g2
    go_wp2
    go_ret
    exact ⟨rfl, b1⟩
  have d2 : decide (n < 0) = false := by simpa using g2
  by_cases g3 : (rows.length : Int) < n
  · have d3 : decide ((rows.length : Int) < n) = true := by simpa using g3
    clear g1 g2 g3
    go_wp2
    go_ret
    exact ⟨rfl, b1⟩
  have d3 : decide ((rows.length : Int) < n) = false := by simpa using g3
  by_cases g4 : many < 1
  · have d4 : decide (many < 1) = true := by simpa using g4
    clear g1 g2 g3 g4
    go_wp2
    go_ret
    exact ⟨rfl, b1⟩
  have d4 : decide (many < 1) = false := by simpa using g4
  by_cases g5 : 300 < many
  · have d5 : decide ((300 : Int) < many) = true := by simpa using g5
    clear g1 g2 g3 g4 g5
    go_wp2
    go_ret
    exact ⟨rfl, b1⟩
  have d5 : decide ((300 : Int) < many) = false := by simpa using g5
  have k1 : rows.length ≤ 30 := by omega
  have k2 : 0 ≤ n ∧ n ≤ rows.length := by omega
  have k3 : 1 ≤ many ∧ many ≤ 300 := by omega
  clear g1 g2 g3 g4 g5
  obtain ⟨W0, hW0⟩ : ∃ W0, w1.alloc (.cells Try.zeroCells41 41) = W0 := ⟨_, rfl⟩
  obtain ⟨m, rfl⟩ : ∃ m : Nat, many = m := ⟨many.toNat, by omega⟩
  obtain ⟨N, rfl⟩ : ∃ N : Nat, n = N := ⟨n.toNat, by omega⟩
  have S0 : Has w w1.heap.size (risV rows m 0 0) W0 := by rw [← hW0]; exact ⟨(FltAt.zero w1).ext (ris_zero rows m), b1.size, b1.alloc b1.size _⟩
  have HS0 : Hid (Has _ _ _ _) := S0
  clear b1 S0
  go_wp2_with fail
  have S0 := HS0.out
  clear hW0 d1 d1' d2 d3 d4 d5 HS0
  obtain ⟨L, hL⟩ : ∃ L, rows.length = L := ⟨_, rfl⟩
  rw [hL] at HR hmx k1 k2 ⊢
  have HL : Hid (rows.length = L) := hL
  clear hL
  have k2 : N ≤ L := by omega
  have k4 : 1 ≤ m := by omega
  have k5 : m ≤ 300 := by omega
  clear k3
  go_loopw [9] (fun x wr => ∃ i : Nat, x = .int .i64 i ∧ i ≤ L ∧ Has w w1.heap.size (risV rows m i 0) wr) (fun x _ => L - (intOf x).toNat)
  case atStart => exact ⟨0, rfl, Nat.zero_le _, S0⟩
  case round =>
    clear S0
    obtain ⟨i, rfl, hi, S⟩ := hrel
    have HS : Hid (Has _ _ _ _) := S
    clear S
    by_cases hil : i < L
    · have hlt : decide (i < L) = true := by simpa using hil
      obtain ⟨r, hr⟩ : ∃ r, rows[i]? = some r := ⟨_, List.getElem?_eq_getElem (by have := HL.out; omega)⟩
      have hgd := getD_at hr
      obtain ⟨b, off, q, c, rfl, hcl, hint, hrl⟩ := RowsR.get HR.out hr
      unfold maxLen at hrl
      have hcell := hcl _ HS.out.below
      have HCL : Hid (∀ X, Below w.heap.size w X → X.cell? ⟨b, off + i, none⟩ = some (.slice q r.length c)) := hcl
      clear hcl
      have HI : Hid (IntsR w (.slice q r.length c) r) := hint
      have HG : Hid (_ = _) := hgd
      clear hint hgd hr hi
      by_cases h20 : 20 < r.length
      · have d : decide (20 < r.length) = true := by simpa using h20
        have d' : decide ((20 : Int) < (r.length : Int)) = true := by simp; omega
        clear h20
        go_wp2
        go_ret
        exact ⟨rfl, HS.out.below⟩
      · have d : decide (20 < r.length) = false := by simpa using h20
        have d' : decide ((20 : Int) < (r.length : Int)) = false := by simp; omega
        clear h20
        go_wp2_with fail
        clear d d'
        go_loopw [10] (fun x wr => ∃ k : Nat, x = .int .i64 k ∧ k ≤ m ∧ Has w w1.heap.size (risV rows m i k) wr) (fun x _ => m - (intOf x).toNat)
        case atStart => exact ⟨0, rfl, Nat.zero_le _, HS.out⟩
        case round =>
          clear HS hcell
          obtain ⟨k, rfl, hk, S⟩ := hrel
          have HS : Hid (Has _ _ _ _) := S
          clear S
          by_cases hkm : k < m
          · have hlt2 : decide (k < m) = true := by simpa using hkm
            have hcell := HCL.out _ HS.out.below
            have hp := HS.out.pushAt HI.out
            have hk3 : k < 300 := by omega
            go_wp2_with fail
            go_at_call 18
            refine Calls.mono hp ?_
            clear hp hcell HS
            rintro e w2 ⟨⟨u, rfl⟩, S2⟩
            go_wp2
            go_roundw
            case rel => exact ⟨k + 1, by go_num, by omega, S2.ext (fun j => by rw [← HG.out, ris_push])⟩
            case measure => simp [intOf] <;> omega
          · have hlt2 : decide (k < m) = false := by simpa using hkm
            obtain rfl : k = m := by omega
            clear hk hkm
            have hi3 : i < 30 := by omega
            go_wp2
            go_roundw
            case rel => exact ⟨i + 1, by go_num, by omega, HS.out.ext (fun j => ris_next rows k i j)⟩
            case measure => simp [intOf] <;> omega
    · have hlt : decide (i < L) = false := by simpa using hil
      obtain rfl : i = L := by omega
      have S1 := HS.out.ext (fun j => fal_start HL.out m j)
      have hw1 : IntKind.i64.wrap ((i : Int) - 1) = (i : Int) - 1 := by rw [IntKind.wrap_i64]; omega
      clear hi hil HS
      go_wp2_with fail
      clear hw1
      go_loopw [11] (fun x wr => ∃ j : Nat, x = .int .i64 ((j : Int) - 1) ∧ N ≤ j ∧ j ≤ i ∧ Has w w1.heap.size (falV rows m j 0) wr) (fun x _ => (intOf x + 1).toNat)
      case atStart => exact ⟨i, rfl, k2, Nat.le_refl _, S1⟩
      case round =>
        clear S1
        obtain ⟨j, rfl, hNj, hjL, S⟩ := hrel
        have HS : Hid (Has _ _ _ _) := S
        clear S
        by_cases hj : N < j
        · obtain ⟨t, rfl⟩ : ∃ t, j = t + 1 := ⟨j - 1, by omega⟩
          rw [show (((t + 1 : Nat) : Int) - 1) = (t : Int) by omega]
          have hlt2 : decide ((N : Int) ≤ (t : Int)) = true := by simp; omega
          have hlt2' : decide (N ≤ t) = true := by simp; omega
          obtain ⟨r, hr⟩ : ∃ r, rows[t]? = some r := ⟨_, List.getElem?_eq_getElem (by have := HL.out; omega)⟩
          have HG : Hid (_ = _) := getD_at hr
          obtain ⟨b, off, q, c, rfl, hcl, hint, hrl⟩ := RowsR.get HR.out hr
          have HCL : Hid (∀ X, Below w.heap.size w X → X.cell? ⟨b, off + t, none⟩ = some (.slice q r.length c)) := hcl
          have HI : Hid (IntsR w (.slice q r.length c) r) := hint
          have htl : t < i := by omega
          have ht3 : t < 30 := by omega
          clear hcl hint hrl hr
          go_wp2_with fail
          clear hlt2 hlt2'
          go_loopw [12] (fun x wr => ∃ k : Nat, x = .int .i64 k ∧ k ≤ m ∧ Has w w1.heap.size (falV rows m t (m - k)) wr) (fun x _ => m - (intOf x).toNat)
          case atStart => exact ⟨0, rfl, Nat.zero_le _, HS.out.ext (fun j => (fal_next rows m t j).symm)⟩
          case round =>
            clear HS
            obtain ⟨k, rfl, hk, S⟩ := hrel
            have HS : Hid (Has _ _ _ _) := S
            clear S
            by_cases hkm : k < m
            · have hlt2 : decide (k < m) = true := by simpa using hkm
              have hcell := HCL.out _ HS.out.below
              have hp := HS.out.popAt HI.out
              have hk3 : k < 300 := by omega
              go_wp2_with fail
              go_at_call 19
              refine Calls.mono hp ?_
              clear hp hcell HS
              rintro e w2 ⟨⟨u, rfl⟩, S2⟩
              go_wp2
              go_roundw
              case rel => exact ⟨k + 1, by go_num, by omega, S2.ext (fun j => by rw [← HG.out]; exact (fal_pop (by have := HL.out; omega) hkm j).symm)⟩
              case measure => simp [intOf] <;> omega
            · have hlt2 : decide (k < m) = false := by simpa using hkm
              obtain rfl : k = m := by omega
              have hw1 : IntKind.i64.wrap ((t : Int) - 1) = (t : Int) - 1 := by rw [IntKind.wrap_i64]; omega
              clear hk hkm
              go_wp2
              go_roundw
              case rel => exact ⟨t, by go_num, by omega, by omega, HS.out.ext (fun j => by rw [Nat.sub_self])⟩
              case measure => simp [intOf] <;> omega
        · obtain rfl : j = N := by omega
          have hlt2 : decide ((j : Int) ≤ (j : Int) - 1) = false := by simp; omega
          have S2 := HS.out
          clear hj hNj HS
          go_wp2_with fail
          clear hlt2
          go_loopw [13] (fun x wr => ∃ y : Nat, x = .int .i64 y ∧ y ≤ j ∧ Has w w1.heap.size (falV rows m j 0) wr) (fun x _ => j - (intOf x).toNat)
          case atStart => exact ⟨0, rfl, Nat.zero_le _, S2⟩
          case round =>
            clear S2
            obtain ⟨y, rfl, hy, S⟩ := hrel
            have HS : Hid (Has _ _ _ _) := S
            clear S
            by_cases hyn : y < j
            · have hlt2 : decide (y < j) = true := by simpa using hyn
              obtain ⟨r, hr⟩ : ∃ r, rows[y]? = some r := ⟨_, List.getElem?_eq_getElem (by have := HL.out; omega)⟩
              have HG : Hid (_ = _) := getD_at hr
              obtain ⟨b, off, q, c, rfl, hcl, hint, hrl⟩ := RowsR.get HR.out hr
              unfold maxLen at hrl
              have HCL : Hid (∀ X, Below w.heap.size w X → X.cell? ⟨b, off + y, none⟩ = some (.slice q r.length c)) := hcl
              have HI : Hid (IntsR w (.slice q r.length c) r) := hint
              have hyl : y < i := by omega
              have hy3 : y < 30 := by omega
              clear hcl hint hr hy
              go_wp2_with fail
              go_loopw [14] (fun x wr => ∃ k : Nat, x = .int .i64 k ∧ k ≤ r.length ∧ Has w w1.heap.size (falV rows m j 0) wr) (fun x _ => r.length - (intOf x).toNat)
              case atStart => exact ⟨0, rfl, Nat.zero_le _, HS.out⟩
              case round =>
                clear HS
                obtain ⟨k, rfl, hk, S⟩ := hrel
                have HS : Hid (Has _ _ _ _) := S
                clear S
                have hcell := HCL.out _ HS.out.below
                by_cases hkr : k < r.length
                · have hlt3 : decide (k < r.length) = true := by simpa using hkr
                  obtain ⟨h, hh⟩ : ∃ h, r[k]? = some h := ⟨_, List.getElem?_eq_getElem hkr⟩
                  obtain ⟨b', off', rfl, _, _, _⟩ := HI.out.get hh
                  have hI2 : IntsR wr (.slice (some ⟨b', off', none⟩) r.length c) r := HI.out.kept (fun z hz => HS.out.below.block z (HI.out.lt (fun e => by subst e; simp at hh) hz))
                  obtain ⟨b2, off2, e2, _, _, hc2⟩ := hI2.get hh
                  cases e2
                  have hm := HS.out.may h
                  rw [fal_may hyn k4 (by rw [HG.out]; exact hh)] at hm
                  clear hI2 hh hk
                  go_wp2_with fail
                  go_at_call 22
                  refine Calls.mono hm ?_
                  clear hm hcell hc2 HS
                  rintro e w2 ⟨rfl, S2⟩
                  go_wp2
                  go_roundw
                  case rel => exact ⟨k + 1, by go_num, by omega, S2⟩
                  case measure => simp [intOf] <;> omega
                · have hlt3 : decide (k < r.length) = false := by simpa using hkr
                  clear hk hkr
                  go_wp2
                  go_roundw
                  case rel => exact ⟨y + 1, by go_num, by omega, HS.out⟩
                  case measure => simp [intOf] <;> omega
            · have hlt2 : decide (y < j) = false := by simpa using hyn
              obtain rfl : y = j := by omega
              clear hy hyn
              by_cases h0 : y = 0
              · have e0 : ((y : Int) == 0) = true := by simp [h0]
                by_cases h6 : m ≤ 6
                · have e6 : decide (m ≤ 6) = true := by simpa using h6
                  have e6' : decide ((m : Int) ≤ 6) = true := by simp; omega
                  have S2 : Has w w1.heap.size (falV rows m 0 0) wr := by have := HS.out; rwa [h0] at this
                  clear h0 h6 HS
                  go_wp2_with fail
                  go_loopw [15] (fun x wr => ∃ k : Nat, x = .int .i64 k ∧ k ≤ 1024 ∧ Has w w1.heap.size (falV rows m 0 0) wr) (fun x _ => 1024 - (intOf x).toNat)
                  case atStart => exact ⟨0, rfl, Nat.zero_le _, S2⟩
                  case round =>
                    clear S2
                    obtain ⟨k, rfl, hk, S⟩ := hrel
                    have HS : Hid (Has _ _ _ _) := S
                    clear S
                    by_cases hkn : k < 1024
                    · have hl1 : decide (k < 1024) = true := by simpa using hkn
                      have hl2 : decide ((k : Int) < 1024) = true := by simp; omega
                      have hc := HS.out.count k hkn
                      rcases fal_gone rows m k with hz | hz
                      · rw [hz] at hc
                        clear hz
                        go_wp2_with fail
                        go_at_call 24
                        refine Calls.mono hc ?_
                        clear hc
                        rintro e w3 ⟨rfl, rfl⟩
                        go_wp2
                        go_roundw
                        case rel => exact ⟨k + 1, by go_num, by omega, HS.out⟩
                        case measure => simp [intOf] <;> omega
                      · rw [hz] at hc
                        clear hz
                        go_wp2_with fail
                        go_at_call 24
                        refine Calls.mono hc ?_
                        clear hc
                        rintro e w3 ⟨rfl, rfl⟩
                        go_wp2
                        go_roundw
                        case rel => exact ⟨k + 1, by go_num, by omega, HS.out⟩
                        case measure => simp [intOf] <;> omega
                    · have hl1 : decide (k < 1024) = false := by simpa using hkn
                      have hl2 : decide ((k : Int) < 1024) = false := by simp; omega
                      go_wp2
                      go_ret
                      exact ⟨rfl, HS.out.below⟩
                · have e6 : decide (m ≤ 6) = false := by simpa using h6
                  have e6' : decide ((m : Int) ≤ 6) = false := by simp; omega
                  clear h0 h6
                  go_wp2
                  go_ret
                  exact ⟨rfl, HS.out.below⟩
              · have e0 : ((y : Int) == 0) = false := beq_eq_false_iff_ne.2 (by omega)
                clear h0
                go_wp2
                go_ret
                exact ⟨rfl, HS.out.below⟩


set_option maxRecDepth 100000 in
theorem bloomKeeps_lifted (os : Os) (started : os.Started) (H : Type) (enc : TypeId × Value → H) :
    ReturnsInHanded {} Try.checked os 5 .any (Rows.bloomKeepsSpec.pre6 enc Try.prog Try.f5 Rows.bloomKeepsRow.domain false) (Rows.bloomKeepsSpec.post enc Try.prog Try.f5 false true false false) := by
  refine returnsInHanded_of_change_sized (C := Try.checked) ownNone started (by kernel_rfl) Try.func5
    (ChangeSpec.witness6 (enc := enc) (C := Try.checked) false ⟨#[], #[.slice none 0 0, .int .i64 0, .int .i64 0], []⟩ 8 (by kernel_rfl) (by kernel_rfl) (by kernel_rfl) (by kernel_rfl)) ?_
  intro W base args ds gs before hval hW _ hsz0 _
  have hW' := hW
  obtain ⟨p, q, hA0, hV, rfl, hfz, hnd⟩ := hW
  have hA : DataW.TrodAll enc Try.prog W 0 (fun _ => true) true Try.f5.params.toList args.toList ds p := hA0
  rw [Try.params5] at hA hval hsz0
  obtain ⟨v0, vs0, d0, ds0, p0, q0, hargs, rfl, rfl, h0, r0⟩ := trodAll_cons hA
  obtain ⟨v1, vs1, d1, ds1, p1, q1, rfl, rfl, rfl, h1, r1⟩ := trodAll_cons r0
  obtain ⟨v2, vs2, d2, ds2, p2, q2, rfl, rfl, rfl, h2, r2⟩ := trodAll_cons r1
  obtain ⟨rfl, rfl, rfl⟩ := trodAll_nil r2
  obtain rfl : args = #[v0, v1, v2] := by cases args; simp_all
  obtain ⟨rfl, rfl⟩ := trodVars_none hV
  have hsz := List.all_eq_true.1 hsz0
  obtain ⟨a0, len0, cap0, rfl⟩ := okWide_slice Try.underlying52 (hval 0 52 v0 rfl rfl)
  have k0 := h0
  have lt0 : ∀ x ∈ p0, x.block < W.heap.size := by obtain ⟨m, hm⟩ := k0; exact DataW.trod_lt m _ _ _ hm
  obtain ⟨z0, w0⟩ := introwsAt_of_reads k0 (fun n hn => by simpa using hsz n (DataW.weights_mem_each (j := 0) rfl rfl n hn))
  obtain ⟨a1, rfl, rfl, rfl, w1⟩ := open_int Try.underlying3 (hval 1 3 v1 rfl rfl) h1
  obtain ⟨a2, rfl, rfl, rfl, w2⟩ := open_int Try.underlying3 (hval 2 3 v2 rfl rfl) h2
  clear hA0
  refine (bloomKeeps_walk W _ z0 w0 a1 w1 a2 w2).mono fun e W' ⟨he, bel⟩ => ?_
  subst he
  exact ⟨_, rfl, _, _, _, [], _, [], hW', trodAll_mk1 (shut_bool Try.underlying4 _), (trodAll_cons_mk (Below.trod laidOut (by kernel_rfl) (of_decide_eq_true (by kernel_rfl)) k0 bel lt0) (trodAll_cons_mk (shut_int Try.underlying3 w1) (trodAll_cons_mk (shut_int Try.underlying3 w2) trodAll_mk0))), rfl, bel.frame _, fun h => by cases h⟩

theorem bloomKeeps_said : Rows.BloomKeepsSaid :=
  OpenClaim.holds_of_wide 5 Try.f5 rfl rfl rfl rfl rfl rfl rfl ⟨rfl, rfl, rfl, rfl, rfl⟩ rfl rfl rfl rfl rfl (by kernel_rfl) Try.func5 (by kernel_rfl)
    (of_decide_eq_true (by kernel_rfl)) (by unfold Func.isWrapper; first | (rw [if_pos (by decide +kernel)]; kernel_rfl) | (rw [if_neg (by decide +kernel)]; exact ⟨rfl, rfl⟩))
    (fun os started H enc _ => bloomKeeps_lifted os started H enc)
#print axioms bloomKeeps_said

end Go.Proofs.Yteklgelmakbmcaa
