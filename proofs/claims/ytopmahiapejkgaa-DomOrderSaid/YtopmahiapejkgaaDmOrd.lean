/- package dom: ordered as an iterator; slices.AppendSeq over an iterator of numbers, where there is room; All at every tree. -/
import Derived.Test.YtopmahiapejkgaaDmFol
import Derived.Test.YtopmahiapejkgaaSeqB
import Derived.RangeFuncKeeps
namespace Go.Proofs.Ytopmahiapejkgaa.Dm
open Go Go.RowKit Go.Shelf
attribute [local go_sem] Oper.semAt_some

/-- How many are still to come. -/
def leftV (es : List El) (i : Int) : Nat := if i = -1 then 0 else (allV es).length - (allV es).idxOf i.toNat
theorem idx_at {L a b : List Nat} {x : Nat} (h : L = a ++ x :: b) (hn : L.Nodup) : L.idxOf x = a.length := by
  subst h
  have hx : x ∉ a := fun hx => (List.nodup_append.1 hn).2.2 x hx x (List.mem_cons_self ..) rfl
  rw [List.idxOf_append, if_neg hx, List.idxOf_cons_self, Nat.zero_add]
theorem left_end (es : List El) : leftV es (-1) = 0 := if_pos rfl
theorem left_at {es : List El} (hO : TreeOk es) {a b : List Nat} {j : Nat} (h : allV es = a ++ j :: b) : leftV es (j : Int) = (allV es).length - a.length := by
  unfold leftV
  rw [if_neg (by omega), Int.toNat_natCast, idx_at h (all_nodup hO)]
theorem left_next {es : List El} (hO : TreeOk es) {a : List Nat} {j f : Nat} (h : allV es = a ++ j :: itF es f (folV es j)) (hf : (a ++ [j]).length + f = (allV es).length + 1) : leftV es (folV es j) < leftV es (j : Int) ∧ (folV es j = -1 ∨ ∃ k : Nat, folV es j = (k : Int) ∧ k < es.length) := by
  have hl : (allV es).length = a.length + (itF es f (folV es j)).length + 1 := by rw [h]; simp; omega
  rw [left_at hO h]
  rw [List.length_append, List.length_singleton] at hf
  by_cases he : folV es j = -1
  · rw [he, left_end]
    exact ⟨by omega, .inl rfl⟩
  · obtain ⟨m, rfl⟩ : ∃ m, f = m + 1 := ⟨f - 1, by omega⟩
    have hit : itF es (m + 1) (folV es j) = (folV es j).toNat :: itF es m (folV es (folV es j).toNat) := by rw [itF, if_neg he]
    have hpos : 0 ≤ folV es j := by
      unfold folV
      split
      · omega
      · rename_i hc
        have h1 : folV es j = upV es j := by unfold folV; rw [hc]
        rw [h1] at he
        unfold upV at he ⊢
        cases hx : (ups es j).find? (hasNext es) with
        | none => rw [hx] at he; exact absurd rfl he
        | some y =>
          rw [hx] at he
          show 0 ≤ sibV es y 1
          have he : sibV es y 1 ≠ -1 := he
          unfold sibV nthI at he ⊢
          split
          · rename_i h2; rw [if_pos h2] at he; exact absurd rfl he
          · rename_i h2
            rw [if_neg h2] at he
            split
            · omega
            · rename_i h3; rw [if_neg h3] at he; exact absurd rfl he
    have h2 : allV es = (a ++ [j]) ++ (folV es j).toNat :: itF es m (folV es (folV es j).toNat) := by rw [h, hit]; simp
    have hk : (folV es j).toNat < es.length := all_mem hO (by rw [h2]; simp)
    have hc : (((folV es j).toNat : Nat) : Int) = folV es j := Int.toNat_of_nonneg hpos
    refine ⟨?_, .inr ⟨_, hc.symm, hk⟩⟩
    have h3 := left_at hO h2
    rw [hc] at h3
    rw [h3]
    simp
    omega

set_option maxRecDepth 100000 in
set_option maxHeartbeats 2000000 in
theorem ordered1_in (n l Bt n₀ b tb g cap : Nat) (qs : List Em) (w₀ : World) (hT : Tr b w₀ tb g cap qs) (hO : TreeOk (qs.map Em.e)) (hl : qs.length ≤ 4096) (J : List Nat → World → Prop) (W : World) (hn₀ : n₀ ≤ W.heap.size) (hJ : AbidesIn W.heap.size W.heap.size J)
    (hC : ∀ s X, J s X → X.cell? ⟨Bt, 0, none⟩ = some (.pointer (some ⟨tb, 0, none⟩)) ∧ Below w₀.heap.size w₀ X)
    (hY : ∀ pre x W1, J pre W1 → pre.length < (allV (qs.map Em.e)).length → W.heap.size ≤ W1.heap.size → YieldAt Fence.wide (n - 1) Try.prog l #[.int .i64 (x : Nat)] W1 fun e W' => e = .returned (.bool true) ∧ J (pre ++ [x]) W' ∧ Below n₀ W1 W')
    (h0 : J [] W) :
    CallsIn Fence.wide n Try.prog 35 #[.func (.yield l) #[] #[], .pointer (some ⟨Bt, 0, none⟩)] W fun e W' => (∃ v, e = .returned v) ∧ ∃ xs, xs = allV (qs.map Em.e) ∧ J xs W' := by
  refine callsIn_of_wp Try.func35 rfl trivial ?_ rfl
  simp only [Try.ntmps35, List.size_toArray, List.length_cons, List.length_nil, Nat.reduceAdd, Nat.reduceSub, Array.replicate_succ, Array.replicate_zero, List.push_toArray, List.append_toArray, List.nil_append, List.cons_append]
  obtain ⟨hct, hW⟩ := hC _ _ h0
  have hlen := len_any b tb g cap qs W (hT.next hW)
  have HT : Hid (Tr b w₀ tb g cap qs) := hT
  have HO : Hid (TreeOk (qs.map Em.e)) := hO
  have hml : (qs.map Em.e).length = qs.length := List.length_map ..
  clear hT hO
  gi_wp2_with fail
  refine ⟨trivial, fun h => (by cases h), ?_⟩
  refine (callsIn_wide.2 hlen).mono ?_
  clear hlen
  rintro e w' ⟨rfl, rfl⟩
  by_cases hq0 : qs.length = 0
  · have hA : allV (qs.map Em.e) = [] := if_pos (by omega)
    have HA : Hid (_ = _) := hA
    rw [hq0]
    clear hA
    gi_wp2
    refine bodyPost_ret (results_none rfl _ _ _) rfl ?_
    exact ⟨⟨_, rfl⟩, [], HA.out.symm, h0⟩
  · have hne0 : ((qs.length : Int) == 0) = false := by simpa using hq0
    have hst := all_it HO.out (by omega)
    have HST : Hid (_ = _) := hst
    clear hst
    gi_wp2
    gi_loopw [3] (fun x wr => ∃ (i : Int) (pre : List Nat) (f : Nat), x = .int .i64 i ∧ allV (qs.map Em.e) = pre ++ itF (qs.map Em.e) f i ∧ pre.length + f = (allV (qs.map Em.e)).length + 1 ∧ (i = -1 ∨ ∃ j : Nat, i = (j : Int) ∧ j < qs.length) ∧ J pre wr ∧ Below n₀ w' wr) (fun x _ => leftV (qs.map Em.e) (intOf x))
    case atStart => exact ⟨0, [], _, rfl, by rw [List.nil_append]; exact HST.out.symm, by simp, .inr ⟨0, rfl, by omega⟩, h0, Below.refl _ _⟩
    case round =>
      obtain ⟨i, pre, f, rfl, hx, hf, hi, hJs, hb⟩ := hrel
      have hct' := (hC _ _ hJs).1
      rcases hi with rfl | ⟨j, rfl, hj⟩
      · rw [itF_end, List.append_nil] at hx
        have HX : Hid (_ = _) := hx
        clear hx HST hf
        gi_wp2
        refine ⟨fun _ h => (by cases h), ?_⟩
        gi_wp2
        go_end0
        exact ⟨⟨_, rfl⟩, pre, HX.out.symm, hJs⟩
      · obtain ⟨m, rfl⟩ : ∃ m, f = m + 1 := by
          cases f with
          | zero =>
            exfalso
            have : (allV (qs.map Em.e)).length = pre.length := by rw [hx]; simp [itF]
            omega
          | succ m => exact ⟨m, rfl⟩
        rw [itF_nat] at hx
        have hlt : pre.length < (allV (qs.map Em.e)).length := by rw [hx]; simp
        obtain ⟨fn, tmps, assign, body, hy, hR⟩ := hY pre j wr hJs hlt hb.size
        have hnx := left_next HO.out hx (by simp; omega)
        have HX : Hid (allV (qs.map Em.e) = (pre ++ [j]) ++ itF (qs.map Em.e) m (folV (qs.map Em.e) j)) := by
          show _ = _
          rw [List.append_assoc]
          exact hx
        have HF : Hid ((pre ++ [j]).length + m = (allV (qs.map Em.e)).length + 1) := by
          show _ = _
          rw [List.length_append, List.length_singleton]
          omega
        have HN : Hid (_ ∧ _) := hnx
        have hne : ((j : Int) != -1) = true := by simp [bne]
        clear hx hY hf hlt hnx HST
        gi_wp2_with fail
        refine ⟨fun h => (by cases h), hR.mono ?_⟩
        rintro e w2 ⟨rfl, hJ2, hb2⟩
        obtain ⟨hct2, hW2⟩ := hC _ _ hJ2
        have hB2 := hb.trans hb2
        have hfo := following_in 1 (Nat.le_refl _) b tb g cap qs j w2 (HT.out.next hW2) HO.out hl hj
        gi_wp2_with fail
        refine ⟨trivial, fun h => (by cases h), ?_⟩
        refine (callsIn_wide.2 (callsIn_wide.1 hfo)).mono ?_
        clear hfo
        rintro e w3 ⟨rfl, hb3⟩
        have hJ3 : J (pre ++ [j]) w3 := hJ _ w2 w3 none hJ2 (grown_below hb3 none) (fun _ e => by cases e)
        have hB3 : Below n₀ w' w3 := hB2.trans (hb3.mono (Nat.le_trans hn₀ hB2.size))
        gi_wp2
        go_roundw
        case rel => exact ⟨_, pre ++ [j], m, rfl, HX.out, HF.out, (by have := HN.out.2; rw [hml] at this; exact this), hJ3, hB3⟩
        case measure => exact HN.out.1

set_option maxRecDepth 100000 in
theorem ordered_any (tb : Nat) (w : World) :
    Calls Try.prog 28 #[.pointer (some ⟨tb, 0, none⟩)] w fun e w' => e = .returned (.func (.func 35) #[] #[.pointer (some ⟨w.heap.size, 0, none⟩)]) ∧ w' = w.alloc (.cells #[.pointer (some ⟨tb, 0, none⟩)] 32) := by
  go_enter Try.func28, Try.ntmps28
  go_wp2
  go_ret
  exact ⟨rfl, rfl⟩
theorem egOrd : ∀ args w, (callFunc 35 args).run Try.prog w = .ok (.enter 35 args) w := enters_of Try.func35 (by kernel_rfl) rfl
theorem ordered_seq (n Bt n₀ b tb g cap : Nat) (qs : List Em) (w₀ : World) (hT : Tr b w₀ tb g cap qs) (hO : TreeOk (qs.map Em.e)) (hl : qs.length ≤ 4096) (w : World) (hn₀ : n₀ ≤ w.heap.size) :
    SeqB Fence.wide n Try.prog 35 #[.pointer (some ⟨Bt, 0, none⟩)] (fun x : Nat => #[.int .i64 x]) n₀ (fun xs => xs = allV (qs.map Em.e)) (allV (qs.map Em.e)).length 0 (fun X => X.cell? ⟨Bt, 0, none⟩ = some (.pointer (some ⟨tb, 0, none⟩)) ∧ Below w₀.heap.size w₀ X) w := fun l J W hW' hJ hC hY h0 =>
  ordered1_in n l Bt n₀ b tb g cap qs w₀ hT hO hl J W (Nat.le_trans hn₀ hW'.size) hJ hC
    (fun pre x W1 h1 h2 h3 => (hY pre x W1 h1 h2 h3).mono (fun _ _ h => ⟨h.1, h.2.1, h.2.2.below⟩)) h0

end Go.Proofs.Ytopmahiapejkgaa.Dm
