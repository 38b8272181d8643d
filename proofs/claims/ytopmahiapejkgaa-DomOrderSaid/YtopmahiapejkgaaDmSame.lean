/- The document's own SameInts, SameStrings, SameNode: yes, where both hold one thing; the laws' own num and alive. -/
import Derived.Test.YtopmahiapejkgaaDmGa
namespace Go.Proofs.Ytopmahiapejkgaa.Dm
open Go Go.RowKit

set_option maxRecDepth 100000 in
set_option maxHeartbeats 1000000 in
theorem sameInts_yes (v v' : Value) (l : List Int) (w : World) (hv : IntsAt w.heap.size w v l) (hv' : IntsAt w.heap.size w v' l) :
    Calls Try.prog 14 #[v, v'] w fun e w' => e = .returned (.bool true) ∧ ∃ n, w' = w.drewN n := by
  have hl := hv.short
  obtain ⟨p, cap, rfl⟩ := hv.len
  obtain ⟨p', cap', rfl⟩ := hv'.len
  go_enter Try.func14, Try.ntmps14
  go_wp2
  go_loopw [5] (fun i wr => ∃ k n : Nat, i = .int .i64 k ∧ k ≤ l.length ∧ wr = w.drewN n) (fun i _ => l.length - (intOf i).toNat)
  case atStart => exact ⟨0, 0, rfl, Nat.zero_le _, rfl⟩
  case round =>
    obtain ⟨k, n, rfl, hk, rfl⟩ := hrel
    by_cases hlt : k < l.length
    · obtain ⟨bk, off, rfl, _, _, _, ha⟩ := hv.get (List.getElem?_eq_getElem hlt)
      obtain ⟨bk', off', rfl, _, _, _, hb⟩ := hv'.get (List.getElem?_eq_getElem hlt)
      have a0 := ha 0 _ rfl
      have b0 := hb 0 _ rfl
      simp only [Nat.mul_one, Nat.add_zero] at a0 b0
      clear hv hv' ha hb
      generalize l[k] = t at *
      have hki : (k : Int) < (l.length : Int) := by omega
      go_wp2
      go_quiet (fail)
      go_wp2
      exact ⟨⟨k + 1, _, by go_num, by omega, rfl⟩, by simp [intOf]; omega⟩
    · have hki : ¬ (k : Int) < (l.length : Int) := by omega
      go_wp2
      go_ret
      exact ⟨rfl, n, rfl⟩

set_option maxRecDepth 100000 in
set_option maxHeartbeats 1000000 in
theorem sameStrs_yes (v v' : Value) (l : List ByteArray) (w : World) (hv : StrsAt w.heap.size w v l) (hv' : StrsAt w.heap.size w v' l) :
    Calls Try.prog 29 #[v, v'] w fun e w' => e = .returned (.bool true) ∧ ∃ n, w' = w.drewN n := by
  have hl := hv.short
  obtain ⟨p, cap, rfl⟩ := hv.len
  obtain ⟨p', cap', rfl⟩ := hv'.len
  go_enter Try.func29, Try.ntmps29
  go_wp2
  go_loopw [5] (fun i wr => ∃ k n : Nat, i = .int .i64 k ∧ k ≤ l.length ∧ wr = w.drewN n) (fun i _ => l.length - (intOf i).toNat)
  case atStart => exact ⟨0, 0, rfl, Nat.zero_le _, rfl⟩
  case round =>
    obtain ⟨k, n, rfl, hk, rfl⟩ := hrel
    by_cases hlt : k < l.length
    · obtain ⟨bk, off, rfl, _, _, _, ha⟩ := hv.get (List.getElem?_eq_getElem hlt)
      obtain ⟨bk', off', rfl, _, _, _, hb⟩ := hv'.get (List.getElem?_eq_getElem hlt)
      have a0 := ha 0 _ rfl
      have b0 := hb 0 _ rfl
      simp only [Nat.mul_one, Nat.add_zero] at a0 b0
      clear hv hv' ha hb
      generalize l[k] = t at *
      have hki : (k : Int) < (l.length : Int) := by omega
      go_wp2
      go_quiet (fail)
      go_wp2
      exact ⟨⟨k + 1, _, by go_num, by omega, rfl⟩, by simp [intOf]; omega⟩
    · have hki : ¬ (k : Int) < (l.length : Int) := by omega
      go_wp2
      go_ret
      exact ⟨rfl, n, rfl⟩

set_option maxRecDepth 100000 in
set_option maxHeartbeats 2000000 in
theorem sameNode_yes (n : Nd) (cv av cv' av' : Value) (w : World) (hc : StrsAt w.heap.size w cv n.cls) (ha : PairsAt w.heap.size w av n.ats) (hc' : StrsAt w.heap.size w cv' n.cls) (ha' : PairsAt w.heap.size w av' n.ats) :
    Calls Try.prog 11 #[ndVal n cv av, ndVal n cv' av'] w fun e w' => e = .returned (.bool true) ∧ Below w.heap.size w w' := by
  unfold ndVal
  obtain ⟨parent, tag, id, cls, ats⟩ := n
  simp only at hc ha hc' ha'
  have hl := ha.short
  obtain ⟨pc, cc, rfl⟩ := hc.len
  obtain ⟨pa, ca, rfl⟩ := ha.len
  obtain ⟨pc', cc', rfl⟩ := hc'.len
  obtain ⟨pa', ca', rfl⟩ := ha'.len
  have b1 : Below w.heap.size w (w.alloc (.cells #[.int .i64 parent, .string tag, .string id, .slice pc cls.length cc, .slice pa ats.length ca] 31)) := (Below.refl _ _).alloc (Nat.le_refl _) _
  have hs1 : (w.alloc (.cells #[.int .i64 parent, .string tag, .string id, .slice pc cls.length cc, .slice pa ats.length ca] 31)).heap.size = w.heap.size + 1 := World.size_alloc _ _
  have b2 : Below (w.heap.size + 1) (w.alloc (.cells #[.int .i64 parent, .string tag, .string id, .slice pc cls.length cc, .slice pa ats.length ca] 31)) ((w.alloc (.cells #[.int .i64 parent, .string tag, .string id, .slice pc cls.length cc, .slice pa ats.length ca] 31)).alloc (.cells #[.int .i64 parent, .string tag, .string id, .slice pc' cls.length cc', .slice pa' ats.length ca'] 31)) := (Below.refl _ _).alloc (by rw [hs1]; exact Nat.le_refl _) _
  have k1 : Blk (w.alloc (.cells #[.int .i64 parent, .string tag, .string id, .slice pc cls.length cc, .slice pa ats.length ca] 31)) w.heap.size 31 [.int .i64 parent, .string tag, .string id, .slice pc cls.length cc, .slice pa ats.length ca] := Blk.new w 31 [.int .i64 parent, .string tag, .string id, .slice pc cls.length cc, .slice pa ats.length ca]
  have k2 : Blk ((w.alloc (.cells #[.int .i64 parent, .string tag, .string id, .slice pc cls.length cc, .slice pa ats.length ca] 31)).alloc (.cells #[.int .i64 parent, .string tag, .string id, .slice pc' cls.length cc', .slice pa' ats.length ca'] 31)) (w.heap.size + 1) 31 [.int .i64 parent, .string tag, .string id, .slice pc' cls.length cc', .slice pa' ats.length ca'] := by
    rw [← hs1]; exact Blk.new _ 31 [.int .i64 parent, .string tag, .string id, .slice pc' cls.length cc', .slice pa' ats.length ca']
  have k3 := k1.below b2 (Nat.lt_succ_self _)
  have b3 := b1.trans (b2.mono (Nat.le_succ _))
  clear k1 b1 b2 hs1
  go_enter Try.func11, Try.ntmps11
  go_upto_region 1 with fail
  generalize (w.alloc (.cells #[.int .i64 parent, .string tag, .string id, .slice pc cls.length cc, .slice pa ats.length ca] 31)).alloc (.cells #[.int .i64 parent, .string tag, .string id, .slice pc' cls.length cc', .slice pa' ats.length ca'] 31) = W1 at *
  have hs := sameStrs_yes _ _ cls W1 (hc.next b3) (hc'.next b3)
  have haW := ha.next b3
  have haW' := ha'.next b3
  obtain ⟨⟨x0, x1, x2, x3, x4⟩, _⟩ := blk5 k3
  obtain ⟨⟨y0, y1, y2, y3, y4⟩, _⟩ := blk5 k2
  clear hc ha hc' ha'
  go_wp2_with fail
  refine hs.mono ?_
  clear hs
  rintro e w2 ⟨rfl, n2, rfl⟩
  have b4 := below_next b3 (below_drewN W1 n2)
  have K3 : Hid (Blk W1 w.heap.size 31 _) := k3
  clear k3 k2 b3
  go_wp2
  go_loopw [5] (fun i wr => ∃ k n : Nat, i = .int .i64 k ∧ k ≤ ats.length ∧ wr = W1.drewN n) (fun i _ => ats.length - (intOf i).toNat)
  case atStart => exact ⟨0, n2, rfl, Nat.zero_le _, rfl⟩
  case round =>
    obtain ⟨k, n, rfl, hk, rfl⟩ := hrel
    by_cases hlt : k < ats.length
    · obtain ⟨bk, off, rfl, _, _, _, ha⟩ := haW.get (List.getElem?_eq_getElem hlt)
      obtain ⟨bk', off', rfl, _, _, _, hb⟩ := haW'.get (List.getElem?_eq_getElem hlt)
      have a0 := ha 0 _ rfl
      have a1 := ha 1 _ rfl
      have c0 := hb 0 _ rfl
      have c1 := hb 1 _ rfl
      simp only [Nat.add_zero] at a0 c0
      clear haW haW' ha hb K3 b4
      generalize ats[k] = t at *
      have hki : (k : Int) < (ats.length : Int) := by omega
      go_wp2
      go_quiet (fail)
      go_wp2
      exact ⟨⟨k + 1, _, by go_num, by omega, rfl⟩, by simp [intOf]; omega⟩
    · have hki : ¬ (k : Int) < (ats.length : Int) := by omega
      go_wp2
      go_ret
      exact ⟨rfl, ⟨b4.os, b4.tape, b4.output, b4.size, b4.block⟩⟩

theorem refLow_any (w : World) (s : ByteArray) (hs : s.size ≤ 281474976710656) :
    Calls Try.prog 33 #[.string s] w fun e w' => e = .returned (.string (lowS s)) ∧ Below w.heap.size w w' := Lw.refLower_any s w (by unfold maxLen; omega)
set_option maxRecDepth 100000 in
theorem num_any (x : Int) (w : World) : Calls Try.prog 20 #[.int .i64 x] w fun e w' => e = .returned (.int .i64 x) ∧ w' = w := by
  go_enter Try.func20, Try.ntmps20
  go_wp2
  go_ret
  exact ⟨rfl, rfl⟩

end Go.Proofs.Ytopmahiapejkgaa.Dm
