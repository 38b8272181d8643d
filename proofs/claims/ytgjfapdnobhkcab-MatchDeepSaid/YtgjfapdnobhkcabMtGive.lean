/- package match in use: Any, for a list of selectors. -/
import Derived.Test.YtgjfapdnobhkcabMtUse
namespace Go.Proofs.Ytgjfapdnobhkcab.Mt
open Go Go.RowKit Dm

/-- What match.Any answers. -/
def givenV (es : List El) (e : Int) (l : List Sel) : Bool := l.any (selectorV es e)

set_option maxRecDepth 100000 in
set_option maxHeartbeats 1000000 in
theorem any1_any (b tb g cap : Nat) (qs : List Em) (w : World) (hT : Tr b w tb g cap qs) (hO : TreeOk (qs.map Em.e)) (hl : qs.length ≤ 4096) (hN : ∀ q ∈ qs, NdOk q.e.nd) (e : Int) (d : Nat) (p : Option Addr) (c : Nat) (s : Sel) (hP : PartsAt d w.heap.size w (.slice p s.length c) s)
    (Bt Be : Nat) (ht : w.cell? ⟨Bt, 0, none⟩ = some (.pointer (some ⟨tb, 0, none⟩))) (he : w.cell? ⟨Be, 0, none⟩ = some (.int .i64 e)) (hbt : Bt < w.heap.size) (hbe : Be < w.heap.size) :
    Calls Try.prog 32 #[.agg #[.slice p s.length c], .pointer (some ⟨Bt, 0, none⟩), .pointer (some ⟨Be, 0, none⟩)] w fun r w' => r = .returned (.bool (selectorV (qs.map Em.e) e s)) ∧ Below w.heap.size w w' := by
  obtain ⟨w1, hw1⟩ : ∃ w1, w.alloc (.cells #[.slice p s.length c] 61) = w1 := ⟨_, rfl⟩
  have b1 : Below w.heap.size w w1 := by rw [← hw1]; exact (Below.refl _ _).alloc (Nat.le_refl _) _
  have k1 : Blk w1 w.heap.size 61 [.slice p s.length c] := by rw [← hw1]; exact Blk.new w 61 _
  have c0 := (blk1 k1).1
  have ct : w1.cell? ⟨Bt, 0, none⟩ = some (.pointer (some ⟨tb, 0, none⟩)) := by rw [b1.cell hbt]; exact ht
  have ce : w1.cell? ⟨Be, 0, none⟩ = some (.int .i64 e) := by rw [b1.cell hbe]; exact he
  have hs := selector_any attrs_all b tb g cap qs w1 (hT.next b1) hO hl hN e d _ s (hP.next b1)
  clear hT hO hN hP k1 ht he
  go_enter Try.func32, Try.ntmps32
  go_wp2_with fail
  refine hs.mono ?_
  clear hs
  rintro r X ⟨rfl, bX⟩
  have b9 := below_next b1 bX
  go_wp2
  go_ret
  exact ⟨rfl, b9⟩

set_option maxRecDepth 100000 in
set_option maxHeartbeats 4000000 in
theorem indexSel_any (b tb g cap : Nat) (qs : List Em) (w : World) (hT : Tr b w tb g cap qs) (hO : TreeOk (qs.map Em.e)) (hl : qs.length ≤ 4096) (hN : ∀ q ∈ qs, NdOk q.e.nd) (e : Int) (d : Nat) (p : Option Addr) (c : Nat) (l : List Sel) (hS : SelsAt d w.heap.size w (.slice p l.length c) l)
    (Bt Be : Nat) (ht : w.cell? ⟨Bt, 0, none⟩ = some (.pointer (some ⟨tb, 0, none⟩))) (he : w.cell? ⟨Be, 0, none⟩ = some (.int .i64 e)) (hbt : Bt < w.heap.size) (hbe : Be < w.heap.size) :
    Calls Try.prog 41 #[.slice p l.length c, .func (.func 32) #[] #[.pointer (some ⟨Bt, 0, none⟩), .pointer (some ⟨Be, 0, none⟩)]] w fun r w' => (∃ i : Int, r = .returned (.int .i64 i) ∧ decide (0 ≤ i) = givenV (qs.map Em.e) e l) ∧ Below w.heap.size w w' := by
  have hsh := hS.short
  unfold maxLen at hsh
  have HS : Hid (SelsAt d w.heap.size w (.slice p l.length c) l) := hS
  have HT : Hid (Tr b w tb g cap qs) := hT
  have HO : Hid (TreeOk (qs.map Em.e)) := hO
  have HNN : Hid (∀ q ∈ qs, NdOk q.e.nd) := hN
  have HCT : Hid (_ = _) := ht
  have HCE : Hid (_ = _) := he
  clear hS hT hO hN ht he
  go_enter Try.func41, Try.ntmps41
  go_wp2
  go_loopw [8] (fun y wr => ∃ (i : Nat), y = .int .i64 i ∧ i ≤ l.length ∧ (l.take i).any (selectorV (qs.map Em.e) e) = false ∧ Below w.heap.size w wr) (fun y _ => l.length - (intOf y).toNat)
  case atStart => exact ⟨0, rfl, Nat.zero_le _, rfl, Below.refl _ _⟩
  case round =>
    obtain ⟨i, rfl, hi, hno, bw⟩ := hrel
    have HNO : Hid (_ = _) := hno
    clear hno
    by_cases hlt : i < l.length
    · obtain ⟨x, hx⟩ : ∃ x, l[i]? = some x := ⟨_, List.getElem?_eq_getElem hlt⟩
      obtain ⟨d', rfl, bk, off, xv, rfl, hbk, hcap, hmx, hP, hc⟩ := ((HS.out.below d bw).mono d bw.size).get hx
      obtain ⟨xp, xc, rfl⟩ := RowT.len hP
      have ct : wr.cell? ⟨Bt, 0, none⟩ = some (.pointer (some ⟨tb, 0, none⟩)) := by rw [bw.cell hbt]; exact HCT.out
      have ce : wr.cell? ⟨Be, 0, none⟩ = some (.int .i64 e) := by rw [bw.cell hbe]; exact HCE.out
      have h := any1_any b tb g cap qs wr (HT.out.next bw) HO.out hl HNN.out e d' xp xc x hP Bt Be ct ce (Nat.lt_of_lt_of_le hbt bw.size) (Nat.lt_of_lt_of_le hbe bw.size)
      have hii : (i : Int) < (l.length : Int) := by omega
      have HXX : Hid (_ = _) := hx
      unfold maxLen at hmx
      clear hP ct ce hx
      go_wp2_with fail
      refine h.mono ?_
      clear h hc
      rintro r W' ⟨rfl, b2⟩
      have b3 := below_next bw b2
      clear b2
      cases hv : selectorV (qs.map Em.e) e x with
      | true =>
        have FIN : Hid (decide ((0 : Int) ≤ (i : Int)) = givenV (qs.map Em.e) e l) := by
          show _ = _
          rw [decide_eq_true (by omega)]
          symm
          show l.any _ = true
          rw [List.any_eq_true]
          exact ⟨x, List.mem_of_getElem? HXX.out, hv⟩
        clear hv
        go_wp2
        go_ret
        exact ⟨⟨i, rfl, FIN.out⟩, b3⟩
      | false =>
        have FIN : Hid ((l.take (i + 1)).any (selectorV (qs.map Em.e) e) = false) := by
          show _ = _
          rw [List.take_add_one, show l[i]? = some x from HXX.out, List.any_append, show (l.take i).any _ = false from HNO.out]
          simp [hv]
        clear hv
        go_wp2
        go_roundw
        case rel => exact ⟨i + 1, rfl, by omega, FIN.out, b3⟩
        case measure => simp [intOf]; omega
    · have hii : ¬ ((i : Int) < (l.length : Int)) := by omega
      obtain rfl : i = l.length := by omega
      have FIN : Hid (decide ((0 : Int) ≤ (-1 : Int)) = givenV (qs.map Em.e) e l) := by
        have h := HNO.out
        rw [List.take_length] at h
        show _ = l.any _
        rw [show l.any _ = false from h]
        rfl
      go_wp2
      go_ret
      exact ⟨⟨-1, rfl, FIN.out⟩, bw⟩

set_option maxRecDepth 100000 in
set_option maxHeartbeats 4000000 in
theorem given_any (b tb g cap : Nat) (qs : List Em) (w : World) (hT : Tr b w tb g cap qs) (hO : TreeOk (qs.map Em.e)) (hl : qs.length ≤ 4096) (hN : ∀ q ∈ qs, NdOk q.e.nd) (e : Int) (d : Nat) (v : Value) (l : List Sel) (hS : SelsAt d w.heap.size w v l) :
    Calls Try.prog 20 #[.pointer (some ⟨tb, 0, none⟩), .int .i64 e, v] w fun r w' => r = .returned (.bool (givenV (qs.map Em.e) e l)) ∧ Below w.heap.size w w' := by
  obtain ⟨p, c, rfl⟩ := hS.len
  obtain ⟨w2, hw2⟩ : ∃ w2, (w.alloc (.cells #[.pointer (some ⟨tb, 0, none⟩)] 30)).alloc (.cells #[.int .i64 e] 3) = w2 := ⟨_, rfl⟩
  have b2 : Below w.heap.size w w2 := by rw [← hw2]; exact ((Below.refl _ w).alloc (Nat.le_refl _) _).alloc (by simp) _
  have kt : Blk w2 w.heap.size 30 [.pointer (some ⟨tb, 0, none⟩)] := by rw [← hw2]; exact blk_alloc (Blk.new w 30 _) _
  have ke : Boxed w2 (w.heap.size + 1) 3 (.int .i64 e) := by
    rw [← hw2]
    have := Boxed.new (w.alloc (.cells #[.pointer (some ⟨tb, 0, none⟩)] 30)) 3 (.int .i64 e)
    rwa [World.size_alloc] at this
  have hi := indexSel_any b tb g cap qs w2 (hT.next b2) hO hl hN e d p c l ((hS.below d b2).mono d b2.size) w.heap.size (w.heap.size + 1) (blk1 kt).1 (Boxed.cell ke) kt.lt ke.lt
  clear hT hO hN hS kt ke
  have hcf : Calls Try.prog 31 #[.slice p l.length c, .func (.func 32) #[] #[.pointer (some ⟨w.heap.size, 0, none⟩), .pointer (some ⟨w.heap.size + 1, 0, none⟩)]] w2 fun r w' => r = .returned (.bool (givenV (qs.map Em.e) e l)) ∧ Below w2.heap.size w2 w' := by
    clear hw2 b2
    go_enter Try.func31, Try.ntmps31
    go_wp2_with fail
    refine hi.mono ?_
    clear hi
    rintro r W' ⟨⟨i, rfl, hi⟩, hst⟩
    have HH : Hid (_ = _) := hi
    clear hi
    go_wp2
    go_ret
    exact ⟨by rw [← show decide (0 ≤ i) = _ from HH.out]; rfl, hst⟩
  clear hi
  go_enter Try.func20, Try.ntmps20
  go_wp2_with fail
  refine hcf.mono ?_
  clear hcf
  rintro r X ⟨rfl, bX⟩
  have b9 := below_next b2 bX
  go_wp2
  go_ret
  exact ⟨rfl, b9⟩

end Go.Proofs.Ytgjfapdnobhkcab.Mt
