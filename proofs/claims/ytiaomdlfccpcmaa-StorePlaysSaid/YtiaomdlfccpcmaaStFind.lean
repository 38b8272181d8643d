/- Package store: a number's struct, and the tree with another struct at a number. -/
import Derived.Test.YtiaomdlfccpcmaaStMem
namespace Go.Proofs.Ytiaomdlfccpcmaa.Sto
open Go Go.RowKit Sl

theorem infoHe : (Try.prog.info? 53).map (·.size) = some 9 := by kernel_rfl
theorem infoSty : (Try.prog.info? 35).map (·.size) = some 8 := by kernel_rfl
theorem quo_four (m : Nat) : (m : Int).tdiv 4 = ((m / 4 : Nat) : Int) := by
  rw [Int.tdiv_eq_ediv_of_nonneg (by omega)]
  omega
theorem rem_four (m : Nat) : (m : Int).tmod 4 = ((m % 4 : Nat) : Int) := by
  rw [Int.tmod_eq_emod_of_nonneg (by omega)]
  omega
theorem loadB {w : World} {g : Nat} {n : Bool} (hc : w.cell? ⟨g, 0, none⟩ = some (.bool n)) : (loadVar 4 ⟨g, 0, none⟩).run Try.prog w = .ok (.bool n) w := by
  simp [loadVar, isAgg, Sem.run_bind, Result.andThen, load, hc, Sem.run]

theorem results_cell_tmp {fn : Func} {p q : Tmp} {ty : TypeId} (h : fn.results = #[.cell p ty, .tmp q]) (tmps : Array Value) (w : World) (g : Nat) (x y : Value)
    (hp : tmps.getD p undef = .pointer (some ⟨g, 0, none⟩)) (hq : tmps.getD q undef = y) (hl : (loadVar ty ⟨g, 0, none⟩).run Try.prog w = .ok x w) :
    (results fn tmps).run Try.prog w = .ok (.tuple #[x, y]) w := by
  have hp' : tmps[p]?.getD undef = .pointer (some ⟨g, 0, none⟩) := by simpa using hp
  have hq' : tmps[q]?.getD undef = y := by simpa using hq
  simp [results, h, hp', hq', asAddr, hl]
theorem load_he {w : World} {g : Nat} {h : He} (k : HAt w g h) : (loadVar 53 ⟨g, 0, none⟩).run Try.prog w = .ok (heV h) w :=
  run_loadVar_row w g _ 53 (heL h).toArray (0, 0) _ k Try.underlying53 rfl infoHe
theorem load_sty {w : World} {g : Nat} {s : Nat → Int} (k : SAt w g s) : (loadVar 35 ⟨g, 0, none⟩).run Try.prog w = .ok (sty s) w :=
  run_loadVar_row w g _ 35 (styL s).toArray (0, 0) _ k Try.underlying35 rfl infoSty

set_option maxRecDepth 100000 in
set_option maxHeartbeats 1000000 in
theorem find_any (D : Nat → Prop) (b : Nat) (p : Option Addr) (f : Nat → Option He) (i : Int) (w : World) (hi : i ≤ 9223372036854775807) (hp : w.cell? ⟨b, 0, none⟩ = some (.pointer p)) (ht : Tr D w p f) :
    Calls Try.prog 23 #[.pointer (some ⟨b, 0, none⟩), .int .i64 i] w fun e w' => e = .returned (.tuple #[heV ((lookV f i).getD zeroH), .bool (lookV f i).isSome]) ∧ Below w.heap.size w w' := by
  obtain ⟨W, hW⟩ : ∃ W, w.alloc (.cells (heL zeroH).toArray 53) = W := ⟨_, rfl⟩
  have hb : Below w.heap.size w W := by rw [← hW]; exact (Below.refl _ _).alloc (Nat.le_refl _) _
  have hR : HAt W w.heap.size zeroH := by rw [← hW]; exact HAt.new w zeroH
  have hlt := World.block_lt_of_cell? w ⟨b, 0, none⟩ hp
  have hp1 : W.cell? ⟨b, 0, none⟩ = some (.pointer p) := (hb.cell (p := ⟨b, 0, none⟩) hlt).trans hp
  have ht1 := ht.next hb
  clear hp ht
  simp only [heL] at hW
  go_enter Try.func23, Try.ntmps23
  go_upto_region 1 with fail
  clear hW
  go_wp2_with fail
  go_loopw [1, 6] (fun x y wr => ∃ (k : Int) (q : Option Addr) (g : Nat → Option He), x = .int .i64 k ∧ y = .pointer q ∧ wr = W ∧ Tr D W q g ∧ lookV g k = lookV f i ∧ k ≤ i) (fun x _ _ => (intOf x).toNat)
  case atStart => exact ⟨i, p, f, rfl, rfl, rfl, ht1, rfl, by omega⟩
  case round =>
    obtain ⟨k, q, g, rfl, rfl, rfl, hq, hk, hki⟩ := hrel
    clear ht1 hp1
    have hcase : (lookV f i = none ∧ (q = none ∨ ∃ n v c, q = some ⟨n, 0, none⟩ ∧ Blk wr n 66 (nodL v c) ∧ (k < 0 ∨ (k = 0 ∧ v = none)))) ∨
        (∃ n a c h, q = some ⟨n, 0, none⟩ ∧ Blk wr n 66 (nodL (some ⟨a, 0, none⟩) c) ∧ k = 0 ∧ lookV f i = some h ∧ HAt wr a h) ∨
        (∃ n v c, q = some ⟨n, 0, none⟩ ∧ Blk wr n 66 (nodL v c) ∧ 0 < k ∧ ∀ j, j < 4 → Tr D wr (c j) (fun k => g (4 * k + 1 + j))) := by
      rw [← hk]
      cases hq with
      | nil hq =>
        refine .inl ⟨?_, .inl rfl⟩
        by_cases h0 : k < 0
        · exact lookV_neg h0
        · rw [lookV_nat (by omega)]; exact hq _
      | @node n v c _ h1 h2 h3 =>
        by_cases h0 : k < 0
        · exact .inl ⟨lookV_neg h0, .inr ⟨n, v, c, rfl, h1.1, .inl h0⟩⟩
        by_cases h4 : k = 0
        · subst h4
          rw [show lookV g 0 = g 0 from rfl]
          rcases h2 with ⟨rfl, h5⟩ | ⟨a, h, rfl, h5, h6, _⟩
          · exact .inl ⟨h5, .inr ⟨n, _, c, rfl, h1.1, .inr ⟨rfl, rfl⟩⟩⟩
          · exact .inr (.inl ⟨n, a, c, h, rfl, h1.1, rfl, h5, h6⟩)
        · exact .inr (.inr ⟨n, v, c, rfl, h1.1, by omega, h3⟩)
    clear hq
    rcases hcase with ⟨ho, rfl | ⟨n, v, c, rfl, hn, h0 | ⟨rfl, rfl⟩⟩⟩ | ⟨n, a, c, h, rfl, hn, rfl, ho, ha⟩ | ⟨n, v, c, rfl, hn, h0, hc⟩
    case' inl.inl => go_upto_region 7 with fail
    case' inl.inr.inl =>
      have d0 : decide (0 < k) = false := decide_eq_false (by omega)
      have d1 : decide (k < 0) = true := decide_eq_true h0
      have n0 := blk_cell hn (i := 0) rfl
      go_upto_region 7 with fail
    case' inl.inr.inr =>
      have n0 := blk_cell hn (i := 0) rfl
      go_upto_region 7 with fail
    case inr.inl =>
      have n0 := blk_cell hn (i := 0) rfl
      obtain ⟨r0, r1, r2, r3, r4, r5, r6, r7, r8⟩ := hR.cells
      obtain ⟨f0, f1, f2, f3, f4, f5, f6, f7, f8⟩ := hR.thaw
      obtain ⟨a0, a1, a2, a3, a4, a5, a6, a7, a8⟩ := ha.cells
      have hF := load_he (hR.set9 h)
      have hB := below_grew hb (grown_set9 wr w.heap.size h) hb.size (fun r e => by cases e; exact Nat.le_refl _)
      simp only [set9] at hF hB
      clear ha hn hR
      go_wp2
      refine bodyPost_ret (results_cell_tmp rfl _ _ w.heap.size _ _ rfl rfl hF) rfl ?_
      exact ⟨rfl, hB⟩
    case inr.inr =>
      obtain ⟨m, rfl⟩ : ∃ m : Nat, k = m + 1 := ⟨k.toNat - 1, by omega⟩
      have d0 : decide (0 < ((m : Int) + 1)) = true := decide_eq_true (by omega)
      have hmb : (m : Int) ≤ 9223372036854775806 := by omega
      have hw : wrap64 (m : Int) = (m : Int) := by unfold wrap64; omega
      have hw4 : wrap64 ((m / 4 : Nat) : Int) = ((m / 4 : Nat) : Int) := by unfold wrap64; omega
      have hj1 : ¬ (((m % 4 : Nat) : Int) < 0) := by omega
      have hj2 : ((m % 4 : Nat) : Int) < 4 := by omega
      have e2 := quo_four m
      have e3 := rem_four m
      have hj : m % 4 < 4 := Nat.mod_lt _ (by decide)
      have hcell : wr.cell? ⟨n, 1 + m % 4, none⟩ = some (.pointer (c (m % 4))) := by
        refine blk_cell hn ?_
        generalize m % 4 = j at *
        obtain rfl | rfl | rfl | rfl : j = 0 ∨ j = 1 ∨ j = 2 ∨ j = 3 := by omega
        all_goals rfl
      have hcj := hc (m % 4) hj
      have hk' : lookV (fun k => g (4 * k + 1 + m % 4)) ((m / 4 : Nat) : Int) = lookV f i := by
        rw [← hk, lookV_cast, show ((m : Int) + 1) = ((m + 1 : Nat) : Int) by omega, lookV_cast]
        congr 1
        omega
      have HK : Hid (_ ∧ _ ∧ _) := ⟨hcj, hk', hki⟩
      clear hc hn hcj hk' hk hki h0
      go_wp2_with fail
      exact ⟨⟨_, _, _, rfl, rfl, trivial, HK.out.1, by rw [← HK.out.2.1]; rfl, by have := HK.out.2.2; omega⟩, by simp [intOf]; omega⟩
    all_goals
      have hR1 := hR.next ((Below.refl wr.heap.size wr).alloc (Nat.le_refl _) (.cells (heL zeroH).toArray 53))
      have hB1 := below_next hb ((Below.refl wr.heap.size wr).alloc (Nat.le_refl _) (.cells (heL zeroH).toArray 53))
      have hZ := (HAt.new wr zeroH).cells
      have hs := hb.size
      simp only [heL] at hR1 hB1 hZ
      generalize wr.alloc _ = X at *
      obtain ⟨r0, r1, r2, r3, r4, r5, r6, r7, r8⟩ := hR1.cells
      obtain ⟨f0, f1, f2, f3, f4, f5, f6, f7, f8⟩ := hR1.thaw
      obtain ⟨a0, a1, a2, a3, a4, a5, a6, a7, a8⟩ := hZ
      have hF := load_he (hR1.set9 zeroH)
      have hB := below_grew hB1 (grown_set9 X w.heap.size zeroH) hB1.size (fun r e => by cases e; exact Nat.le_refl _)
      simp only [set9] at hF hB
      go_wp2
      refine bodyPost_ret (results_cell_tmp rfl _ _ w.heap.size _ _ rfl rfl hF) rfl ?_
      exact ⟨rfl, hB⟩

end Go.Proofs.Ytiaomdlfccpcmaa.Sto
