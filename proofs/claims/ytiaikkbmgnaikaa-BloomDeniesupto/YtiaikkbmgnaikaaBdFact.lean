/- What an element matches is asked of its ancestors; plain facts. -/
import Derived.Test.YtiaikkbmgnaikaaRfNew
import Derived.Test.YtiaikkbmgnaikaaBhNode
import Derived.Test.YtiaikkbmgnaikaaBlCnt
namespace Go.Proofs.Ytiaikkbmgnaikaa.Bl
open Go Go.Proofs.Ytiaikkbmgnaikaa.Tre Wg
open Dm (El Nd TreeOk)

/-- The hashes of a node's names. -/
def ndH (n : Nd) : List Nat := Bl.nodeV n.tag n.id n.cls
theorem named_names {n : Nd} {c : Cp} (h : Mt.namedV n c = true) : ∀ x ∈ cpNames c, x ∈ ndH n := by
  unfold Mt.namedV at h
  simp only [Bool.and_eq_true, Bool.or_eq_true, decide_eq_true_eq, List.all_eq_true] at h
  obtain ⟨⟨⟨h1, h2⟩, h3⟩, _⟩ := h
  intro x hx
  unfold cpNames Bl.namesV at hx
  unfold ndH Bl.nodeV Bl.namesV
  rw [List.mem_append, List.mem_append] at hx ⊢
  rcases hx with hx | hx | hx
  · left
    split at hx
    · cases hx
    · rename_i hne
      rw [List.mem_singleton] at hx
      have e := h1.resolve_left hne
      rw [if_neg (by rw [← e]; exact hne), List.mem_singleton, ← e]
      exact hx
  · right; left
    obtain ⟨i, hi, rfl⟩ := List.mem_map.1 hx
    obtain ⟨a, b⟩ := h2 i hi
    rw [if_neg (by rw [← b]; exact a), List.mem_map]
    exact ⟨n.id, List.mem_singleton.2 rfl, by rw [b]⟩
  · right; right
    obtain ⟨k, hk, rfl⟩ := List.mem_map.1 hx
    have := h3 k hk
    rw [List.any_eq_true] at this
    obtain ⟨s, hs, e⟩ := this
    rw [decide_eq_true_eq] at e
    exact List.mem_map.2 ⟨s, hs, by rw [e]⟩
theorem upto_comp {Q : Mt.Any} {es : List El} {s : Sel} {i e : Nat} (h : Mt.uptoV Q es s i e = true) : Mt.compV Q es (Mt.partAt s i).2 e = true := by
  cases i with
  | zero => exact h
  | succ i =>
    rw [Mt.uptoV, Bool.and_eq_true] at h
    exact h.1
/-- What stands above in a selector is asked of ancestors. -/
theorem upto_above {Q : Mt.Any} {es : List El} (hO : TreeOk es) {s : Sel} : ∀ (i e : Nat), e < es.length → Mt.uptoV Q es s i e = true → ∀ c ∈ aboveV s i, ∃ a ∈ Mt.aheadV es 1 e, Mt.compV Q es c a = true
  | 0, _, _, _, c, hc => by simp [aboveV] at hc
  | i + 1, e, he, h, c, hc => by
    rw [Mt.uptoV, Bool.and_eq_true] at h
    have hany := h.2
    rw [List.any_eq_true] at hany
    obtain ⟨a, ha, hu⟩ := hany
    rw [aboveV] at hc
    cases hq : s[i + 1]? with
    | none => rw [hq] at hc; simp at hc
    | some q =>
      cases hp : s[i]? with
      | none => rw [hq, hp] at hc; simp at hc
      | some p =>
        rw [hq, hp] at hc
        simp only at hc
        rw [Mt.partAt_eq hq] at ha
        split at hc
        · rename_i h12
          have hin : a ∈ Mt.aheadV es 1 e ∧ a < es.length := by
            rcases h12 with h1 | h1
            · rw [h1] at ha
              obtain ⟨x, y, e'⟩ := List.append_of_mem ha
              exact ⟨ha, (Mt.ahead_tail hO he e').1⟩
            · rw [h1, Mt.ahead_next hO he] at ha
              have hn : Mt.nextV es 2 e = Mt.nextV es 1 e := rfl
              rw [hn] at ha
              rw [Mt.ahead_next hO he]
              split at ha
              · cases ha
              · rename_i hne
                rw [if_neg hne]
                have hf : Mt.farV 2 = false := rfl
                rw [hf] at ha
                simp only [Bool.false_eq_true, if_false, List.mem_singleton] at ha
                refine ⟨by rw [ha]; exact List.mem_cons_self .., ?_⟩
                rcases Mt.nextV_lt hO he 1 with h2 | ⟨j, h2, h3⟩
                · exact absurd h2 hne
                · rw [ha, h2, Int.toNat_natCast]; omega
          rcases List.mem_cons.1 hc with rfl | hc
          · refine ⟨a, hin.1, ?_⟩
            have := upto_comp hu
            rwa [Mt.partAt_eq hp] at this
          · obtain ⟨b, hb, hcb⟩ := upto_above hO i a hin.2 hu c hc
            obtain ⟨x, y, e'⟩ := List.append_of_mem hin.1
            have ht := (Mt.ahead_tail hO he e').2
            have hf : Mt.farV 1 = true := rfl
            rw [hf, if_pos rfl] at ht
            refine ⟨b, ?_, hcb⟩
            rw [e', ht]
            exact List.mem_append_right _ (List.mem_cons_of_mem _ hb)
        · cases hc
/-- What a selector wants of ancestors, an ancestor has, where it matches. -/
theorem sel_wants {es : List El} (hO : TreeOk es) {s : Sel} {e : Nat} (h : Rf.selectorV es (e : Int) s = true) : ∀ x ∈ wantsV s, ∃ a ∈ Mt.aheadV es 1 e, x ∈ ndH (Dm.nodeV es (a : Int)) := by
  unfold Rf.selectorV at h
  rw [Bool.and_eq_true, Bool.and_eq_true, decide_eq_true_eq] at h
  obtain ⟨h1, _, h2⟩ := h
  rw [Int.toNat_natCast] at h2
  unfold Mt.selV at h2
  rw [Bool.and_eq_true] at h2
  intro x hx
  unfold wantsV at hx
  obtain ⟨c, hc, hxc⟩ := List.mem_flatMap.1 hx
  obtain ⟨a, ha, hca⟩ := upto_above hO (s.length - 1) e (by omega) h2.2 c hc
  unfold Mt.compV at hca
  rw [Bool.and_eq_true] at hca
  exact ⟨a, ha, named_names hca.1 x hxc⟩

/-! ### pushes -/
def ints (l : List Nat) : List Int := l.map (fun x : Nat => (x : Int))
theorem push_has {c : Nat → Nat} (hc : ∀ i, c i ≤ 255) {l : List Int} {h : Int} (hl : h ∈ l) : mayV (pushV c l) h = true := by
  unfold mayV
  rw [List.all_eq_true]
  intro j hj
  have := cnt_pos hl hj
  rw [decide_eq_true_eq, push_cnt hc]
  omega
theorem push_keeps {c : Nat → Nat} (hc : ∀ i, c i ≤ 255) (l : List Int) {h : Int} (hm : mayV c h = true) : mayV (pushV c l) h = true := by
  unfold mayV at hm ⊢
  rw [List.all_eq_true] at hm ⊢
  intro j hj
  have := hm j hj
  rw [decide_eq_true_eq] at this ⊢
  rw [push_cnt hc]
  omega

end Go.Proofs.Ytiaikkbmgnaikaa.Bl
