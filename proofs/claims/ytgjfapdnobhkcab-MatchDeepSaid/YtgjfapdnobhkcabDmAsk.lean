/- package dom: what a tree tells of its elements. -/
import Derived.Test.YtgjfapdnobhkcabDmAdd
import Derived.Test.YtgjfapdnobhkcabDmFact
namespace Go.Proofs.Ytgjfapdnobhkcab.Dm
open Go Go.RowKit

set_option maxRecDepth 100000 in
theorem len_any (b tb g cap : Nat) (qs : List Em) (w : World) (hT : Tr b w tb g cap qs) :
    Calls Try.prog 28 #[.pointer (some ⟨tb, 0, none⟩)] w fun x w' => x = .returned (.int .i64 qs.length) ∧ w' = w := by
  have c0 := (blk1 hT.blk).1
  clear hT
  go_enter Try.func28, Try.ntmps28
  go_wp2
  go_ret
  exact ⟨rfl, rfl⟩
/-- The element that is asked for, or none. -/
def elAt (es : List El) (e : Int) : Option El := if 0 ≤ e ∧ e < es.length then es[e.toNat]? else none
def parentV (es : List El) (e : Int) : Int := ((elAt es e).map fun q => q.nd.parent).getD (-1)
def depthV (es : List El) (e : Int) : Int := ((elAt es e).map fun q => (q.depth : Int)).getD 0
def placeV (es : List El) (e : Int) : Int := ((elAt es e).map fun q => (q.place : Int)).getD 0
def childrenV (es : List El) (e : Int) : List Nat := ((elAt es e).map fun q => q.ch).getD []
theorem elAt_no {es : List El} {e : Int} (h : ¬ (0 ≤ e ∧ e < es.length)) : elAt es e = none := by unfold elAt; rw [if_neg h]
theorem elAt_yes {es : List El} {k : Nat} {q : El} (h : es[k]? = some q) : elAt es (k : Int) = some q := by
  have hk : k < es.length := (List.getElem?_eq_some_iff.1 h).1
  unfold elAt
  rw [if_pos ⟨by omega, by omega⟩, Int.toNat_natCast]
  exact h
theorem map_at {qs : List Em} {k : Nat} {q : Em} (h : qs[k]? = some q) : (qs.map Em.e)[k]? = some q.e := by rw [List.getElem?_map, h]; rfl
theorem dec_map (qs : List Em) (e : Int) : (0 ≤ e ∧ e < (qs.length : Int)) ↔ (0 ≤ e ∧ e < ((qs.map Em.e).length : Int)) := by rw [List.length_map]

set_option maxRecDepth 100000 in
set_option maxHeartbeats 1000000 in
theorem parent_any (b tb g cap : Nat) (qs : List Em) (e : Int) (w : World) (hT : Tr b w tb g cap qs) :
    Calls Try.prog 81 #[.pointer (some ⟨tb, 0, none⟩), .int .i64 e] w fun x w' => x = .returned (.int .i64 (parentV (qs.map Em.e) e)) ∧ w' = w := by
  have hh := has_any b tb g cap qs e w hT
  have c0 := (blk1 hT.blk).1
  by_cases hin : 0 ≤ e ∧ e < (qs.length : Int)
  · rw [decide_eq_true hin] at hh
    obtain ⟨k, rfl⟩ : ∃ k : Nat, e = (k : Int) := ⟨e.toNat, by omega⟩
    have hk : k < qs.length := by omega
    obtain ⟨q, hq⟩ : ∃ q, qs[k]? = some q := ⟨_, List.getElem?_eq_getElem hk⟩
    have hV : parentV (qs.map Em.e) (k : Int) = q.e.nd.parent := by unfold parentV; rw [elAt_yes (map_at hq)]; rfl
    rw [hV]
    obtain ⟨x0, _, _, _, _, x5, x6, _⟩ := hT.get8 hq
    have hr := hT.room
    unfold maxLen at hr
    have hki : (k : Int) < (qs.length : Int) := by omega
    clear hT hV hq hin
    go_enter Try.func81, Try.ntmps81
    go_wp2_with fail
    refine hh.mono ?_
    clear hh
    rintro x w' ⟨rfl, rfl⟩
    go_wp2
    go_ret
    exact ⟨rfl, rfl⟩
  · rw [decide_eq_false hin] at hh
    have hV : parentV (qs.map Em.e) e = (-1) := by unfold parentV; rw [elAt_no (fun h => hin ((dec_map qs e).2 h))]; rfl
    rw [hV]
    clear hT hV hin
    go_enter Try.func81, Try.ntmps81
    go_wp2_with fail
    refine hh.mono ?_
    clear hh
    rintro x w' ⟨rfl, rfl⟩
    go_wp2
    go_ret
    exact ⟨rfl, rfl⟩


set_option maxRecDepth 100000 in
set_option maxHeartbeats 1000000 in
theorem place_any (b tb g cap : Nat) (qs : List Em) (e : Int) (w : World) (hT : Tr b w tb g cap qs) :
    Calls Try.prog 86 #[.pointer (some ⟨tb, 0, none⟩), .int .i64 e] w fun x w' => x = .returned (.int .i64 (placeV (qs.map Em.e) e)) ∧ w' = w := by
  have hh := has_any b tb g cap qs e w hT
  have c0 := (blk1 hT.blk).1
  by_cases hin : 0 ≤ e ∧ e < (qs.length : Int)
  · rw [decide_eq_true hin] at hh
    obtain ⟨k, rfl⟩ : ∃ k : Nat, e = (k : Int) := ⟨e.toNat, by omega⟩
    have hk : k < qs.length := by omega
    obtain ⟨q, hq⟩ : ∃ q, qs[k]? = some q := ⟨_, List.getElem?_eq_getElem hk⟩
    have hV : placeV (qs.map Em.e) (k : Int) = (q.e.place : Int) := by unfold placeV; rw [elAt_yes (map_at hq)]; rfl
    rw [hV]
    obtain ⟨x0, _, _, _, _, x5, x6, _⟩ := hT.get8 hq
    have hr := hT.room
    unfold maxLen at hr
    have hki : (k : Int) < (qs.length : Int) := by omega
    clear hT hV hq hin
    go_enter Try.func86, Try.ntmps86
    go_wp2_with fail
    refine hh.mono ?_
    clear hh
    rintro x w' ⟨rfl, rfl⟩
    go_wp2
    go_ret
    exact ⟨rfl, rfl⟩
  · rw [decide_eq_false hin] at hh
    have hV : placeV (qs.map Em.e) e = 0 := by unfold placeV; rw [elAt_no (fun h => hin ((dec_map qs e).2 h))]; rfl
    rw [hV]
    clear hT hV hin
    go_enter Try.func86, Try.ntmps86
    go_wp2_with fail
    refine hh.mono ?_
    clear hh
    rintro x w' ⟨rfl, rfl⟩
    go_wp2
    go_ret
    exact ⟨rfl, rfl⟩


end Go.Proofs.Ytgjfapdnobhkcab.Dm
