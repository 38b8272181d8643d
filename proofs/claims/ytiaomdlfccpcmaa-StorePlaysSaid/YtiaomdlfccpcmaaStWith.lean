/- Package store: the tree with another struct at a number. -/
import Derived.Test.YtiaomdlfccpcmaaStFind
import Derived.Laws.StructEq
namespace Go.Proofs.Ytiaomdlfccpcmaa.Sto
open Go Go.RowKit Sl

theorem infoNod : (Try.prog.info? 66).map (·.size) = some 5 := by kernel_rfl
/-- Block B is a node. -/
def NAt (W : World) (B : Nat) (v : Option Addr) (c : Nat → Option Addr) : Prop := Blk W B 66 (nodL v c)
theorem NAt.lt {W : World} {B : Nat} {v : Option Addr} {c : Nat → Option Addr} (k : NAt W B v c) : B < W.heap.size := Blk.lt k
theorem NAt.next {X Y : World} {B : Nat} {v : Option Addr} {c : Nat → Option Addr} (k : NAt X B v c) (hb : Below X.heap.size X Y) : NAt Y B v c := Blk.below k hb k.lt
theorem NAt.cells {W : World} {B : Nat} {v : Option Addr} {c : Nat → Option Addr} (k : NAt W B v c) : W.cell? ⟨B, 0, none⟩ = some (.pointer v) ∧ W.cell? ⟨B, 1, none⟩ = some (.pointer (c 0)) ∧ W.cell? ⟨B, 2, none⟩ = some (.pointer (c 1)) ∧ W.cell? ⟨B, 3, none⟩ = some (.pointer (c 2)) ∧ W.cell? ⟨B, 4, none⟩ = some (.pointer (c 3)) :=
  ⟨blk_cell k rfl, blk_cell k rfl, blk_cell k rfl, blk_cell k rfl, blk_cell k rfl⟩
theorem NAt.cell {W : World} {B : Nat} {v : Option Addr} {c : Nat → Option Addr} (k : NAt W B v c) {j : Nat} (hj : j < 4) : W.cell? ⟨B, 1 + j, none⟩ = some (.pointer (c j)) := by
  refine blk_cell k ?_
  obtain rfl | rfl | rfl | rfl : j = 0 ∨ j = 1 ∨ j = 2 ∨ j = 3 := by omega
  all_goals rfl
theorem NAt.new (w : World) (v : Option Addr) (c : Nat → Option Addr) : NAt (w.alloc (.cells (nodL v c).toArray 66)) w.heap.size v c := Blk.new w _ _
theorem NAt.thaw {W : World} {B : Nat} {v : Option Addr} {c : Nat → Option Addr} (k : NAt W B v c) (i : Nat) : W.frozen? ⟨B, i, none⟩ = false := blk_thaw k i
def set5 (W : World) (B : Nat) (v : Option Addr) (c : Nat → Option Addr) : World := ((((W.setCell ⟨B, 0, none⟩ (.pointer v)).setCell ⟨B, 1, none⟩ (.pointer (c 0))).setCell ⟨B, 2, none⟩ (.pointer (c 1))).setCell ⟨B, 3, none⟩ (.pointer (c 2))).setCell ⟨B, 4, none⟩ (.pointer (c 3))
theorem grown_set5 (W : World) (B : Nat) (v : Option Addr) (c : Nat → Option Addr) : W.grownBy (set5 W B v c) (some B) :=
  ((((grown_set _ _ _ _).trans (grown_set _ _ _ _)).trans (grown_set _ _ _ _)).trans (grown_set _ _ _ _)).trans (grown_set _ _ _ _)
theorem NAt.set5 {W : World} {B : Nat} {v : Option Addr} {c : Nat → Option Addr} (k : NAt W B v c) (v' : Option Addr) (c' : Nat → Option Addr) : NAt (set5 W B v' c') B v' c' := by
  have := (((blk_put k 0 (.pointer v'))
  |> (blk_put · 1 (.pointer (c' 0))))
  |> (blk_put · 2 (.pointer (c' 1))))
  |> (blk_put · 3 (.pointer (c' 2)))
  exact blk_put this 4 (.pointer (c' 3))
theorem NAt.put0 {W : World} {B : Nat} {v : Option Addr} {c : Nat → Option Addr} (k : NAt W B v c) (v' : Option Addr) : NAt (W.setCell ⟨B, 0, none⟩ (.pointer v')) B v' c := blk_put k 0 _
def putC (c : Nat → Option Addr) (j : Nat) (p : Option Addr) : Nat → Option Addr := fun i => if i = j then p else c i
theorem NAt.putC {W : World} {B : Nat} {v : Option Addr} {c : Nat → Option Addr} (k : NAt W B v c) {j : Nat} (hj : j < 4) (p : Option Addr) : NAt (W.setCell ⟨B, 1 + j, none⟩ (.pointer p)) B v (putC c j p) := by
  have := blk_put k (1 + j) (.pointer p)
  unfold NAt
  obtain rfl | rfl | rfl | rfl : j = 0 ∨ j = 1 ∨ j = 2 ∨ j = 3 := by omega
  all_goals exact this
def noneN (v : Option Addr) (c : Nat → Option Addr) : Bool := v.isNone && (c 0).isNone && (c 1).isNone && (c 2).isNone && (c 3).isNone
abbrev nodV (v : Option Addr) (c : Nat → Option Addr) : Value := .agg #[.pointer v, .pointer (c 0), .pointer (c 1), .pointer (c 2), .pointer (c 3)]
theorem load_nod {w : World} {g : Nat} {v : Option Addr} {c : Nat → Option Addr} (k : NAt w g v c) : (loadVar 66 ⟨g, 0, none⟩).run Try.prog w = .ok (nodV v c) w :=
  run_loadVar_row w g _ 66 (nodL v c).toArray (0, 0) _ k Try.underlying66 rfl infoNod
theorem eq_ptrH (d : Nat) (v : Option Addr) (w : World) : (Op.equalIn (d + 1) 62 (.pointer v) (.pointer none)).run Try.prog w = .ok v.isNone w := by
  cases v <;> simp [Op.equalIn, run_underlying Try.underlying62]
theorem eq_ptrN (d : Nat) (v : Option Addr) (w : World) : (Op.equalIn (d + 1) 24 (.pointer v) (.pointer none)).run Try.prog w = .ok v.isNone w := by
  cases v <;> simp [Op.equalIn, run_underlying Try.underlying24]
set_option maxRecDepth 100000 in
set_option maxHeartbeats 1000000 in
theorem eq_arr (d : Nat) (c : Nat → Option Addr) (w : World) : (Op.equalIn (d + 1 + 1) 64 (.agg #[.pointer (c 0), .pointer (c 1), .pointer (c 2), .pointer (c 3)]) (.agg #[.pointer none, .pointer none, .pointer none, .pointer none])).run Try.prog w = .ok ((c 0).isNone && (c 1).isNone && (c 2).isNone && (c 3).isNone) w := by
  have hp := fun v w => eq_ptrN d v w
  rw [Op.equalIn]
  simp only [Sem.run_bind, run_underlying Try.underlying64, Result.andThen_ok]
  simp only [Std.Legacy.Range.forIn_eq_forIn_range', Std.Legacy.Range.size, Nat.sub_zero, Nat.add_sub_cancel, Nat.div_one, List.range'_succ, List.range'_zero, List.forIn_cons, List.forIn_nil]
  go_simp
  cases c 0 <;> cases c 1 <;> cases c 2 <;> cases c 3 <;> simp
theorem none_all {D : Nat → Prop} {X : World} {v : Option Addr} {c : Nat → Option Addr} {F : Nat → Option He} (hn : noneN v c = true) (hv : PtrH D X v (F 0)) (hc : ∀ j, j < 4 → Tr D X (c j) (fun k => F (4 * k + 1 + j))) (k : Nat) : F k = none := by
  simp only [noneN, Bool.and_eq_true, Option.isNone_iff_eq_none] at hn
  obtain ⟨⟨⟨⟨rfl, h0⟩, h1⟩, h2⟩, h3⟩ := hn
  by_cases hk : k = 0
  · subst hk; exact hv.none_of
  obtain ⟨j, m, hj, rfl⟩ : ∃ j m, j < 4 ∧ k = 4 * m + 1 + j := ⟨(k - 1) % 4, (k - 1) / 4, Nat.mod_lt _ (by decide), by omega⟩
  have h := hc j hj
  rw [show c j = none by obtain rfl | rfl | rfl | rfl : j = 0 ∨ j = 1 ∨ j = 2 ∨ j = 3 := by omega
                         all_goals assumption] at h
  exact h.none_of m

set_option maxRecDepth 100000 in
set_option maxHeartbeats 2000000 in
theorem with_any (i : Nat) : ∀ (D : Nat → Prop) (p : Option Addr) (f : Nat → Option He) (v : Option Addr) (o : Option He) (w : World), (i : Int) ≤ 9223372036854775807 → Tr D w p f → PtrH D w v o →
    Calls Try.prog 24 #[.pointer p, .int .i64 i, .pointer v] w fun e w' => ∃ p', e = .returned (.pointer p') ∧ Tr (fun r => D r ∨ w.heap.size ≤ r) w' p' (updV f i o) ∧ Below w.heap.size w w' := by
  induction i using Nat.strongRecOn with
  | ind i ih =>
  intro D p f v o w hi ht hv
  obtain ⟨W, hW⟩ : ∃ W, w.alloc (.cells (nodL none (fun _ => none)).toArray 66) = W := ⟨_, rfl⟩
  have hb : Below w.heap.size w W := by rw [← hW]; exact (Below.refl _ _).alloc (Nat.le_refl _) _
  have hM : NAt W w.heap.size none (fun _ => none) := by rw [← hW]; exact NAt.new w _ _
  have IH : Hid (∀ m, m < i → _) := ih
  have HV : Hid (PtrH (fun r => D r ∧ r < w.heap.size) w v o) := hv.low
  clear ih hv
  simp only [nodL] at hW
  obtain ⟨v0, c, hfork⟩ : ∃ v0 c, (p = none ∧ v0 = none ∧ c = (fun _ => none) ∨ ∃ n, p = some ⟨n, 0, none⟩ ∧ NAt w n v0 c) ∧ PtrH (fun r => D r ∧ r < w.heap.size) w v0 (f 0) ∧ ∀ j, j < 4 → Tr (fun r => D r ∧ r < w.heap.size) w (c j) (fun k => f (4 * k + 1 + j)) := by
    cases ht.low with
    | nil h => exact ⟨none, fun _ => none, .inl ⟨rfl, rfl, rfl⟩, .inl ⟨rfl, h 0⟩, fun j _ => .nil (fun k => h _)⟩
    | @node n v0 c _ h1 h2 h3 => exact ⟨v0, c, .inr ⟨n, rfl, h1.1⟩, h2, h3⟩
  obtain ⟨hp, hf0, hfc⟩ := hfork
  have HF : Hid (_ ∧ _) := ⟨hf0, hfc⟩
  clear ht hf0 hfc
  go_enter Try.func24, Try.ntmps24
  go_upto_region 2 with fail
  clear hW
  rcases hp with ⟨rfl, hv0, hc0⟩ | ⟨n, rfl, hn⟩
  case' inl =>
    go_upto_region 4 with fail
    replace hM : NAt W w.heap.size v0 c := by rw [hv0, hc0]; exact hM
    clear hv0 hc0
    obtain ⟨Y, hY⟩ : ∃ Y, W = Y := ⟨_, rfl⟩
    rw [hY] at hM hb ⊢
    clear hY
  case' inr =>
    have hn1 := hn.next hb
    have hM2 := hM.set5 v0 c
    have hb2 := below_grew hb (grown_set5 W w.heap.size v0 c) hb.size (fun r e => by cases e; exact Nat.le_refl _)
    obtain ⟨n0, n1, n2, n3, n4⟩ := hn1.cells
    obtain ⟨m0, m1, m2, m3, m4⟩ := hM.cells
    have f0 := hM.thaw 0
    have f1 := hM.thaw 1
    have f2 := hM.thaw 2
    have f3 := hM.thaw 3
    have f4 := hM.thaw 4
    clear hn hn1 hM hb
    simp only [set5] at hM2 hb2
    go_upto_region 4 with fail
    clear n0 n1 n2 n3 n4 m0 m1 m2 m3 m4 f0 f1 f2 f3 f4
    have hM := hM2
    have hb := hb2
    clear hM2 hb2
    generalize (((((W.setCell _ _).setCell _ _).setCell _ _).setCell _ _).setCell _ _) = Y at *
  all_goals
    have hMs := hM.lt
    by_cases hi0 : i = 0
    case' pos =>
      subst hi0
      have m0 := (hM.cells).1
      have f0 := hM.thaw 0
      have hM2 := hM.put0 v
      have hb2 := below_set hb w.heap.size 0 (.pointer v) hb.size (Nat.le_refl _)
      go_upto_region 8 with fail
      generalize Y.setCell _ _ = X at *
      have hX : ∃ v1 c1, NAt X w.heap.size v1 c1 ∧ PtrH (fun r => D r ∨ w.heap.size ≤ r) X v1 (updV f 0 o 0) ∧ (∀ j, j < 4 → Tr (fun r => D r ∨ w.heap.size ≤ r) X (c1 j) (fun k => updV f 0 o (4 * k + 1 + j))) ∧ Below w.heap.size w X :=
        ⟨v, _, hM2, by rw [upd_zero]; exact (HV.out.next hb2).mono (fun r hr => .inl hr.1), fun j hj => (((HF.out.2 j hj).next hb2).ext (fun k => by rw [show 4 * k + 1 + j = (4 * k + j) + 1 by omega, upd_zero_ne])).mono (fun r hr => .inl hr.1), hb2⟩
      clear hM2 hb2 hM hb
      generalize hF : updV f 0 o = F at *
    case' neg =>
      obtain ⟨m, rfl⟩ : ∃ m : Nat, i = m + 1 := ⟨i - 1, by omega⟩
      have hcall := IH.out (m / 4) (by omega) (fun r => D r ∧ r < w.heap.size) (c (m % 4)) _ v o Y (by omega) ((HF.out.2 (m % 4) (Nat.mod_lt _ (by decide))).next hb) (HV.out.next hb)
      have hmb : (m : Int) ≤ 9223372036854775806 := by omega
      obtain ⟨z, hz⟩ : ∃ z : Int, ((m + 1 : Nat) : Int) = z := ⟨_, rfl⟩
      rw [hz]
      have d0 : (z == 0) = false := by simp; omega
      have hw : wrap64 (z - 1) = (m : Int) := by unfold wrap64; omega
      have hw4 : wrap64 ((m / 4 : Nat) : Int) = ((m / 4 : Nat) : Int) := by unfold wrap64; omega
      clear hz hi hi0
      have e2 := quo_four m
      have e3 := rem_four m
      have hj : m % 4 < 4 := Nat.mod_lt _ (by decide)
      have hj1 : ¬ (((m % 4 : Nat) : Int) < 0) := by omega
      have hj2 : ((m % 4 : Nat) : Int) < 4 := by omega
      have mj := hM.cell hj
      generalize ((m / 4 : Nat) : Int) = q4 at *
      have HJ : Hid (m % 4 < 4 ∧ m + 1 = 4 * (m / 4) + 1 + m % 4) := ⟨hj, by omega⟩
      clear hj
      generalize m % 4 = j at *
      go_wp2_with fail
      refine hcall.mono ?_
      clear hcall
      rintro e w5 ⟨p', rfl, ht5, hb5⟩
      have hM5 := hM.next hb5
      have f5 := hM5.thaw (1 + j)
      have m5 := hM5.cell HJ.out.1
      have hM2 := hM5.putC HJ.out.1 p'
      have hb0 := below_next hb hb5
      have hb2 := below_set hb0 w.heap.size (1 + j) (.pointer p') hb0.size (Nat.le_refl _)
      clear hM mj hM5 hb5
      go_upto_region 8 with fail
      clear f5 m5
      have hX : ∃ v1 c1, NAt (w5.setCell ⟨w.heap.size, 1 + j, none⟩ (.pointer p')) w.heap.size v1 c1 ∧ PtrH (fun r => D r ∨ w.heap.size ≤ r) (w5.setCell ⟨w.heap.size, 1 + j, none⟩ (.pointer p')) v1 (updV f (m + 1) o 0) ∧ (∀ j', j' < 4 → Tr (fun r => D r ∨ w.heap.size ≤ r) (w5.setCell ⟨w.heap.size, 1 + j, none⟩ (.pointer p')) (c1 j') (fun k => updV f (m + 1) o (4 * k + 1 + j'))) ∧ Below w.heap.size w (w5.setCell ⟨w.heap.size, 1 + j, none⟩ (.pointer p')) := by
        refine ⟨v0, _, hM2, (HF.out.1.next hb2).mono (fun r hr => .inl hr.1), fun j' hj' => ?_, hb2⟩
        by_cases e : j' = j
        · subst e
          rw [upd_below HJ.out.2 HJ.out.1, show putC c j' p' j' = p' from if_pos rfl]
          refine (ht5.kept (fun r hr hlt => (grown_set w5 w.heap.size _ _).block r hlt (fun e => ?_))).mono (fun r hr => ?_)
          · obtain rfl := Option.some.inj e
            rcases hr with hr | hr <;> omega
          · rcases hr with hr | hr
            · exact .inl hr.1
            · exact .inr (by omega)
        · rw [upd_other HJ.out.2 HJ.out.1 hj' e, show putC c j p' j' = c j' from if_neg e]
          exact ((HF.out.2 j' hj').next hb2).mono (fun r hr => .inl hr.1)
      clear hM2 hb2 hb0 hb ht5
      generalize w5.setCell _ _ = X at *
      generalize hF : updV f (m + 1) o = F at *
  all_goals
    obtain ⟨v1, c1, hN, hP, hC, hB⟩ := hX
    obtain ⟨m0, m1, m2, m3, m4⟩ := hN.cells
    have hq := eq_ptrH 9998 v1 X
    have ha := eq_arr 9997 c1 X
    have hz : noneN v1 c1 = (v1.isNone && ((c1 0).isNone && (c1 1).isNone && (c1 2).isNone && (c1 3).isNone)) := by unfold noneN; simp [Bool.and_assoc]
    have HZ : Hid (∀ b, b = true ∨ b = false → b = noneN v1 c1 → ∃ p', .pointer (if b = true then none else some ⟨w.heap.size, 0, none⟩) = Value.pointer p' ∧ Tr (fun r => D r ∨ w.heap.size ≤ r) X p' F ∧ Below w.heap.size w X) := fun b _ hb => by
      cases b
      · exact ⟨_, rfl, .node ⟨hN, .inr (Nat.le_refl _)⟩ hP hC, hB⟩
      · exact ⟨_, rfl, .nil (none_all hb.symm hP hC), hB⟩
    generalize ((c1 0).isNone && (c1 1).isNone && (c1 2).isNone && (c1 3).isNone) = B at *
    clear hP hC hN hB
    generalize v1.isNone = A at *
    have Z := HZ.out (A && B) (by cases A <;> cases B <;> simp) hz.symm
    clear HZ hz
    cases A <;> cases B
    all_goals
      obtain ⟨p', hp', Z⟩ := Z
      cases hp'
      go_wp2
      go_ret
      subst hF
      exact ⟨_, rfl, Z⟩

end Go.Proofs.Ytiaomdlfccpcmaa.Sto
