/- Nodes that have a parent alone: the laws' own Big says no, and trees makes both trees. -/
import Derived.Test.YtgjfapdnobhkcabMtDeep
namespace Go.Proofs.Ytgjfapdnobhkcab.Mt
open Go Go.RowKit Dm

set_option maxRecDepth 100000 in
set_option maxHeartbeats 1000000 in
theorem big_bare (v : Value) (l : List Nv) (w : World) (hv : NodesAt w.heap.size w v l) (hb : ∀ n ∈ l, ∃ p, n = bare p) (h40 : l.length ≤ 40) :
    Calls Try.prog 24 #[v] w fun e w' => e = .returned (.bool false) ∧ w' = w := by
  obtain ⟨p, cap, rfl⟩ := hv.row.len
  go_enter Try.func24, Try.ntmps24
  go_wp2
  go_loop [3] (fun i => ∃ k : Nat, i = .int .i64 k ∧ k ≤ l.length) (fun i => l.length - (intOf i).toNat)
  case atStart => exact ⟨0, rfl, Nat.zero_le _⟩
  case round =>
    obtain ⟨k, rfl, hk⟩ := hrel
    by_cases hlt : k < l.length
    · have hki : (k : Int) < (l.length : Int) := by omega
      have hkj : (k : Int) < 100 := by omega
      have hlk : l[k]? = some l[k] := List.getElem?_eq_getElem hlt
      obtain ⟨pp, hpp⟩ := hb _ (List.getElem_mem hlt)
      obtain ⟨bk, off, rfl, hbk, hcap, hmx, hcell⟩ := hv.row.get hlk
      rw [hpp] at hcell
      have x1 := hcell 1 _ rfl
      have x2 := hcell 2 _ rfl
      have x3 := hcell 3 _ rfl
      have x4 := hcell 4 _ rfl
      simp only [bare] at x1 x2 x3 x4
      unfold maxLen at hmx
      clear hcell hlk hv hb hpp
      go_wp2
      go_loop [4] (fun i => i = .int .i64 0) (fun _ => 0)
      case atStart => rfl
      case round =>
        subst hrel
        go_wp2
        go_loop [5] (fun i => i = .int .i64 0) (fun _ => 0)
        case atStart => rfl
        case round =>
          subst hrel
          go_wp2
          first | exact ⟨⟨k + 1, by go_num, by omega⟩, by simp [intOf]; omega⟩ | (go_round; case rel => exact ⟨k + 1, by go_num, by omega⟩; case measure => simp [intOf]; omega)
    · have hki : ¬ (k : Int) < (l.length : Int) := by omega
      have h40' : decide ((40 : Int) < (l.length : Int)) = false := decide_eq_false (by omega)
      have h42' : decide ((4100 : Int) < (l.length : Int)) = false := decide_eq_false (by omega)
      clear hv hb
      go_wp2
      go_ret
      exact ⟨rfl, rfl⟩

set_option maxRecDepth 100000 in
set_option maxHeartbeats 4000000 in
theorem trees_bare (v : Value) (l : List Nv) (es : List El) (w : World) (hv : NodesAt w.heap.size w v l) (hb : ∀ n ∈ l, ∃ p, n = bare p) (h40 : l.length ≤ 40) (hV : newV (l.map Nv.nd) = .ok es) :
    Calls Try.prog 13 #[v] w fun e w' => (∃ tb rb, e = .returned (.tuple #[.pointer (some ⟨tb, 0, none⟩), .pointer (some ⟨rb, 0, none⟩), .bool true]) ∧ Good w' tb es) ∧ Below w.heap.size w w' := by
  obtain ⟨p, cap, rfl⟩ := hv.row.len
  have h1 := big_bare _ l w hv hb h40
  have HV : Hid (NodesAt w.heap.size w (.slice p l.length cap) l) := hv
  have HN : Hid (∀ n ∈ l, NdOk n.nd) := fun n hn => by obtain ⟨q, rfl⟩ := hb n hn; exact bare_ok q
  have HVV : Hid (newV (l.map Nv.nd) = .ok es) := hV
  clear hv hb hV
  go_enter Try.func13, Try.ntmps13
  go_wp2_with fail
  refine h1.mono ?_
  clear h1
  rintro e w1 ⟨rfl, rfl⟩
  have h2 := refNew_any _ l w1 HV.out HN.out
  go_wp2_with fail
  refine h2.mono ?_
  clear h2
  rintro e w2 ⟨hm, b2⟩
  unfold RMade at hm
  rcases hm with ⟨rb, nv, dv, ns, ds, es', hV, rfl, -, -⟩ | ⟨x, hV, rfl⟩
  · have h3 := new_any _ l w2 (HV.out.next b2) HN.out
    clear hV
    go_wp2_with fail
    refine h3.mono ?_
    clear h3
    rintro e w3 ⟨hm, b3⟩
    have b23 := below_next b2 b3
    unfold Made at hm
    rcases hm with ⟨tb, g, cap2, qs, hV2, rfl, hT⟩ | ⟨x, hV2, _⟩
    · have heq : qs.map Em.e = es := by have h := show newV _ = _ from HVV.out; rw [hV2] at h; exact Except.ok.inj h
      have hG := (good_new hV2 hT HN.out).1
      rw [heq] at hG
      have FIN : Hid (Good w3 tb es) := hG
      clear hV2 hT heq hG b2 b3
      go_wp2
      go_ret3
      exact ⟨⟨tb, rb, rfl, FIN.out⟩, b23⟩
    · have h := show newV _ = _ from HVV.out
      rw [hV2] at h
      cases h
  · have h := show newV _ = _ from HVV.out
    rw [hV] at h
    cases h

end Go.Proofs.Ytgjfapdnobhkcab.Mt
