/- package match: places of elements. -/
import Derived.Test.YtchfnnoabejlpaaMtGa
namespace Go.Proofs.Ytchfnnoabejlpaa.Mt
open Go.Proofs.Ytchfnnoabejlpaa.Tre
open Go Go.RowKit Dm

theorem wrapU (x : Int) : IntKind.u64.wrap x = x % 18446744073709551616 := by simp [IntKind.wrap, IntKind.bits, IntKind.signed]
theorem wrapU_sub {p b : Int} (hp : i64 p) (hb : i64 b) (h : b ≤ p) : IntKind.u64.wrap (IntKind.u64.wrap p - IntKind.u64.wrap b) = p - b := by
  unfold i64 at hp hb
  rw [wrapU, wrapU, wrapU]
  omega
theorem wrapU_neg {a : Int} (ha : i64 a) (h : a < 0) : IntKind.u64.wrap (-IntKind.u64.wrap a) = -a := by
  unfold i64 at ha
  rw [wrapU, wrapU]
  omega
set_option maxRecDepth 100000 in
set_option maxHeartbeats 2000000 in
theorem isInRow_any (p a b : Int) (hp : i64 p) (ha : i64 a) (hb : i64 b) (w : World) :
    Calls Try.prog 84 #[.int .i64 p, .int .i64 a, .int .i64 b] w fun e w' => e = .returned (.bool (inRowV p a b)) ∧ w' = w := by
  have hs1 := fun h => wrapU_sub (p := p) (b := b) hp hb h
  have hs2 := fun h => wrapU_sub (p := b) (b := p) hb hp h
  have hn := fun h => wrapU_neg (a := a) ha h
  unfold i64 at hp ha hb
  unfold inRowV
  by_cases h0 : 0 < a
  · rw [if_pos h0]
    by_cases h1 : b ≤ p
    · have hs := hs1 h1
      have hV : decide (b ≤ p ∧ (p - b) % a = 0) = ((p - b) % a == 0) := by
        rw [Bool.eq_iff_iff]
        simp [h1]
      rw [hV]
      clear hs1 hs2 hn hV
      go_enter Try.func84, Try.ntmps84
      go_wp2
      go_ret
      exact ⟨rfl, rfl⟩
    · have hb2 : p < b := by omega
      clear hs1 hs2 hn
      rw [decide_eq_false (fun h => h1 h.1)]
      go_enter Try.func84, Try.ntmps84
      go_wp2
      go_ret
      exact ⟨rfl, rfl⟩
  · rw [if_neg h0]
    by_cases h2 : a < 0
    · rw [if_pos h2]
      by_cases h1 : p ≤ b
      · have hs := hs2 h1
        have hm := hn h2
        have hm0 : ¬ (-a = 0) := by omega
        have hm1 : ¬ (a = 0) := by omega
        obtain ⟨m, hm2⟩ : ∃ m, -a = m := ⟨_, rfl⟩
        rw [hm2] at hm hm0
        have hV : decide (p ≤ b ∧ (b - p) % -a = 0) = ((b - p) % m == 0) := by
          rw [hm2, Bool.eq_iff_iff]
          simp [h1]
        rw [hV]
        clear hs1 hs2 hn hV hm2
        go_enter Try.func84, Try.ntmps84
        go_wp2
        go_ret
        exact ⟨rfl, rfl⟩
      · have hb2 : b < p := by omega
        clear hs1 hs2 hn
        rw [decide_eq_false (fun h => h1 h.1)]
        go_enter Try.func84, Try.ntmps84
        go_wp2
        go_ret
        exact ⟨rfl, rfl⟩
    · rw [if_neg h2]
      clear hs1 hs2 hn
      go_enter Try.func84, Try.ntmps84
      go_wp2
      go_ret
      exact ⟨rfl, rfl⟩


section
variable (E : Env) (hE : EnvOk E) (w : World) (hT : Tr E.b w E.tb E.g E.cap E.qs)
include hT

set_option maxRecDepth 100000 in
theorem isFirst_any (e : Int) : Calls Try.prog 81 #[.pointer (some ⟨E.tb, 0, none⟩), .int .i64 e] w fun x w' => x = .returned (.bool (firstV E.es e)) ∧ w' = w := by
  have hp := place_any E.b E.tb E.g E.cap E.qs e w hT
  unfold firstV Env.es
  clear hT
  go_enter Try.func81, Try.ntmps81
  go_wp2_with fail
  refine hp.mono ?_
  clear hp
  rintro x w' ⟨rfl, rfl⟩
  go_wp2
  go_ret
  exact ⟨rfl, rfl⟩

include hE
set_option maxRecDepth 100000 in
set_option maxHeartbeats 1000000 in
theorem isLast_any (e : Int) : Calls Try.prog 82 #[.pointer (some ⟨E.tb, 0, none⟩), .int .i64 e] w fun x w' => x = .returned (.bool (lastV E.es e)) ∧ Below w.heap.size w w' := by
  have hp := place_any E.b E.tb E.g E.cap E.qs e w hT
  have hq := parent_any E.b E.tb E.g E.cap E.qs e w hT
  have hc := children_any E.b E.tb E.g E.cap E.qs (parentV E.es e) w hT hE.ok hE.few
  unfold lastV
  unfold Env.es at *
  generalize parentV (E.qs.map Em.e) e = P at *
  generalize placeV (E.qs.map Em.e) e = L at *
  generalize childrenV (E.qs.map Em.e) P = C at *
  clear hT hE
  by_cases h : P = -1
  · subst h
    rw [decide_eq_true rfl, Bool.true_or]
    clear hp hc
    go_enter Try.func82, Try.ntmps82
    go_wp2_with fail
    refine hq.mono ?_
    clear hq
    rintro x w' ⟨rfl, rfl⟩
    go_wp2
    go_ret
    exact ⟨rfl, Below.refl _ _⟩
  · rw [decide_eq_false h, Bool.false_or]
    have hne : (P == -1) = false := by simpa using h
    go_enter Try.func82, Try.ntmps82
    go_wp2_with fail
    refine hq.mono ?_
    clear hq
    rintro x w' ⟨rfl, rfl⟩
    go_wp2_with fail
    refine hp.mono ?_
    clear hp
    rintro x w2 ⟨rfl, rfl⟩
    go_wp2_with fail
    refine hc.mono ?_
    clear hc
    rintro x w3 ⟨v', rfl, hv, b3⟩
    unfold IntRow at hv
    rw [chI_len] at hv
    obtain ⟨pv, cv, rfl⟩ := owns_form hv
    clear hv
    go_wp2
    go_ret
    exact ⟨rfl, b3⟩

set_option maxRecDepth 100000 in
set_option maxHeartbeats 4000000 in
theorem isPlaced_any (e : Int) (p : Ps) (pl : Option Addr) (m c : Nat) (hp : i64 p.a ∧ i64 p.b) : Calls Try.prog 70 #[.pointer (some ⟨E.tb, 0, none⟩), .int .i64 e, .agg #[.int .i64 p.kind, .int .i64 p.a, .int .i64 p.b, .slice pl m c]] w fun x w' => x = .returned (.bool (placedV E.es e p)) ∧ Below w.heap.size w w' := by
  obtain ⟨w1, hw1⟩ : ∃ w1, w.alloc (.cells #[.int .i64 p.kind, .int .i64 p.a, .int .i64 p.b, .slice pl m c] 56) = w1 := ⟨_, rfl⟩
  have k1 : Blk w1 w.heap.size 56 [.int .i64 p.kind, .int .i64 p.a, .int .i64 p.b, .slice pl m c] := by rw [← hw1]; exact Blk.new w 56 _
  have b1 : Below w.heap.size w w1 := by rw [← hw1]; exact (Below.refl _ _).alloc (Nat.le_refl _) _
  have hT1 := hT.next b1
  have hpl := fun n => place_any E.b E.tb E.g E.cap E.qs e (w1.drewN n) (hT1.drewN n)
  have hpa := parent_any E.b E.tb E.g E.cap E.qs e w1 hT1
  have hch := children_any E.b E.tb E.g E.cap E.qs e w1 hT1 hE.ok hE.few
  have hfi := isFirst_any E w1 hT1 e
  have hla := isLast_any E hE w1 hT1 e
  obtain ⟨⟨c0, c1, c2, c3⟩, _⟩ := blk4 k1
  have hPl : i64 (placeV E.es e) := by
    unfold placeV i64
    cases h : elAt E.es e with
    | none => simp
    | some q =>
      have hq : q ∈ E.es := by
        unfold elAt at h
        split at h
        · exact List.mem_of_getElem? h
        · cases h
      obtain ⟨j, hj⟩ := List.getElem?_of_mem hq
      have hlen := hE.few
      have hel : E.es.length = E.qs.length := List.length_map ..
      simp only [Option.map_some, Option.getD_some]
      rcases Nat.eq_zero_or_pos j with rfl | hj0
      · have := (hE.ok.root q hj).2.2
        omega
      · obtain ⟨p', q', _, _, hq', _, h1, h2⟩ := hE.ok.par j q hj hj0
        have h3 := hE.ok.few p' q' hq'
        have h4 := (List.getElem?_eq_some_iff.1 h2).1
        omega
  have hro := fun W => isInRow_any (placeV E.es e) p.a p.b hPl hp.1 hp.2 W
  unfold placedV
  unfold Env.es at *
  generalize inRowV (placeV (E.qs.map Em.e) e) p.a p.b = R at *
  generalize parentV (E.qs.map Em.e) e = P at *
  generalize placeV (E.qs.map Em.e) e = L at *
  generalize firstV (E.qs.map Em.e) e = F at *
  generalize lastV (E.qs.map Em.e) e = T at *
  generalize childrenV (E.qs.map Em.e) e = C at *
  generalize p.kind = k at *
  clear hT hE hT1 hPl hp k1
  by_cases h1 : k = 1
  · subst h1
    rw [if_pos rfl]
    clear hpl hch hfi hla hro
    go_enter Try.func70, Try.ntmps70
    go_wp2_with fail
    refine hpa.mono ?_
    clear hpa
    rintro x w' ⟨rfl, rfl⟩
    go_wp2
    go_ret
    exact ⟨rfl, b1⟩
  rw [if_neg h1]
  have e1 : (k == 1) = false := by simpa using h1
  clear hpa h1
  by_cases h1 : k = 2
  · subst h1
    rw [if_pos rfl]
    clear hpl hch hla hro
    go_enter Try.func70, Try.ntmps70
    go_wp2_with fail
    refine hfi.mono ?_
    clear hfi
    rintro x w' ⟨rfl, rfl⟩
    go_wp2
    go_ret
    exact ⟨rfl, b1⟩
  rw [if_neg h1]
  have e2 : (k == 2) = false := by simpa using h1
  clear h1
  by_cases h1 : k = 3
  · subst h1
    rw [if_pos rfl]
    clear hpl hch hfi hro
    go_enter Try.func70, Try.ntmps70
    go_wp2_with fail
    refine hla.mono ?_
    clear hla
    rintro x w' ⟨rfl, b2⟩
    have b3 := below_next b1 b2
    go_wp2
    go_ret
    exact ⟨rfl, b3⟩
  rw [if_neg h1]
  have e3 : (k == 3) = false := by simpa using h1
  clear h1
  by_cases h1 : k = 4
  · subst h1
    rw [if_pos rfl]
    clear hpl hch hro
    go_enter Try.func70, Try.ntmps70
    go_wp2_with fail
    refine hfi.mono ?_
    clear hfi
    rintro x w' ⟨rfl, rfl⟩
    cases F with
    | true =>
      go_wp2_with fail
      refine hla.mono ?_
      clear hla
      rintro x w' ⟨rfl, b2⟩
      have b3 := below_next b1 b2
      go_wp2
      go_ret
      exact ⟨rfl, b3⟩
    | false =>
      clear hla
      go_wp2
      go_ret
      exact ⟨rfl, b1⟩
  rw [if_neg h1]
  have e4 : (k == 4) = false := by simpa using h1
  clear h1 hla hfi
  by_cases h1 : k = 5
  · subst h1
    rw [if_pos rfl]
    clear hpl hro
    go_enter Try.func70, Try.ntmps70
    go_wp2_with fail
    refine hch.mono ?_
    clear hch
    rintro x w' ⟨v', rfl, hv, b2⟩
    have b3 := below_next b1 b2
    unfold IntRow at hv
    rw [chI_len] at hv
    obtain ⟨pv, cv, rfl⟩ := owns_form hv
    have hz : ((C.length : Int) == 0) = decide (C.length = 0) := by rw [Bool.eq_iff_iff]; simp
    clear hv
    go_wp2
    go_ret
    exact ⟨by simp, b3⟩
  rw [if_neg h1]
  have e5 : (k == 5) = false := by simpa using h1
  clear h1 hch
  by_cases h1 : k = 6
  · subst h1
    rw [if_pos rfl]
    go_enter Try.func70, Try.ntmps70
    go_wp2
    go_quiet (first | (go_at_call 85; exact Calls.quiet_of_same (hpl _)) | (go_at_call 84; exact Calls.quiet_of_same (hro _)))
    go_wp2
    go_ret
    exact ⟨rfl, below_drewN' b1 _⟩
  rw [if_neg h1]
  have e6 : (k == 6) = false := by simpa using h1
  clear hpl hro
  go_enter Try.func70, Try.ntmps70
  go_wp2
  go_ret
  exact ⟨rfl, b1⟩
end

end Go.Proofs.Ytchfnnoabejlpaa.Mt
