/- package match: the elements to which a combinator leads, as an iterator. -/
import Derived.Test.YtgjfapdnobhkcabMtWay
namespace Go.Proofs.Ytgjfapdnobhkcab.Mt
open Go Go.RowKit Go.Shelf Dm
attribute [local go_sem] Oper.semAt_some

set_option maxRecDepth 100000 in
set_option maxHeartbeats 2000000 in
theorem ahead1P_in (E : Env) (hE : EnvOk E) (n l Bn Be Bf : Nat) (comb : Int) (hcb : comb = 1 ∨ comb = 2) (e : Nat) (he : e < E.qs.length) (J Jx : List Nat → World → Prop) (W : World)
    (hC : ∀ s X, J s X → X.cell? ⟨Bn, 0, none⟩ = some (wayF E.tb comb) ∧ X.cell? ⟨Be, 0, none⟩ = some (.int .i64 e) ∧ X.cell? ⟨Bf, 0, none⟩ = some (.bool (farV comb)) ∧ Tr E.b X E.tb E.g E.cap E.qs)
    (hY : ∀ pre x W1, J pre W1 → (∃ rest, pre ++ x :: rest = aheadV E.es comb e) → W.heap.size ≤ W1.heap.size → YieldAt Fence.wide (n - 1) Try.prog l #[.int .i64 (x : Nat)] W1 fun x' W' => (x' = .returned (.bool true) ∧ J (pre ++ [x]) W' ∧ W1.heap.size ≤ W'.heap.size) ∨ (x' = .returned (.bool false) ∧ Jx (pre ++ [x]) W'))
    (h0 : J [] W) :
    CallsIn Fence.wide n Try.prog 72 #[.func (.yield l) #[] #[], .pointer (some ⟨Bn, 0, none⟩), .pointer (some ⟨Be, 0, none⟩), .pointer (some ⟨Bf, 0, none⟩)] W fun x W' => (∃ v, x = .returned v) ∧ ((∃ xs, xs = aheadV E.es comb e ∧ J xs W') ∨ (∃ pre, True ∧ Jx pre W')) := by
  have hF : wayF E.tb comb = .func (.func 81) #[.pointer (some ⟨E.tb, 0, none⟩)] #[] := by unfold wayF; rw [if_pos hcb]
  have nx : ∀ (x : Nat) (X : World), Tr E.b X E.tb E.g E.cap E.qs → Calls Try.prog 81 #[.pointer (some ⟨E.tb, 0, none⟩), .int .i64 x] X fun r X' => r = .returned (.int .i64 (nextV E.es comb x)) ∧ X' = X := fun x X hT => by
    unfold nextV
    rw [if_pos hcb]
    exact parent_any E.b E.tb E.g E.cap E.qs x X hT
  refine callsIn_of_wp Try.func72 rfl trivial ?_ rfl
  simp only [Try.ntmps72, List.size_toArray, List.length_cons, List.length_nil, Nat.reduceAdd, Nat.reduceSub, Array.replicate_succ, Array.replicate_zero, List.push_toArray, List.append_toArray, List.nil_append, List.cons_append]
  rw [hF] at hC
  obtain ⟨c1, c2, c3, hT⟩ := hC _ _ h0
  have n1 := nx e W hT
  have NX : Hid _ := nx
  have HC : Hid _ := hC
  have HY : Hid _ := hY
  have hlen : E.es.length = E.qs.length := List.length_map ..
  have NLT : Hid (∀ k : Nat, k < E.qs.length → nextV E.es comb k = -1 ∨ ∃ j : Nat, nextV E.es comb k = j ∧ j < k) := fun k hk => nextV_lt hE.ok (by rw [hlen]; exact hk) comb
  have HST : Hid (aheadV E.es comb e = restV E.es comb e (nextV E.es comb e)) := chain_succ _ _ _ _
  clear hT hE nx hC hF hlen hY hcb
  gi_wp2_with fail
  refine ⟨trivial, fun h => (by cases h), ?_⟩
  refine (callsIn_wide.2 n1).mono ?_
  clear n1
  rintro r W' ⟨rfl, rfl⟩
  gi_wp2
  gi_loopw [5] (fun x wr => ∃ (y : Int) (pre : List Nat) (f : Nat), x = .int .i64 y ∧ aheadV E.es comb e = pre ++ restV E.es comb f y ∧ (y = -1 ∨ ∃ j : Nat, y = j ∧ j < E.qs.length ∧ j < f) ∧ J pre wr ∧ W'.heap.size ≤ wr.heap.size) (fun x _ => (intOf x + 1).toNat)
  case atStart =>
    refine ⟨_, [], e, rfl, HST.out, ?_, h0, Nat.le_refl _⟩
    rcases NLT.out e he with h | ⟨j, h, hj⟩
    · exact .inl h
    · exact .inr ⟨j, h, by omega, hj⟩
  case round =>
    clear c1 c2 c3
    obtain ⟨y, pre, f, rfl, hx, hy, hJ, hsz⟩ := hrel
    obtain ⟨c1, c2, c3, hT⟩ := HC.out _ _ hJ
    rcases hy with rfl | ⟨j, rfl, hj, hjf⟩
    · rw [restV_end, List.append_nil] at hx
      have HX : Hid (_ = _) := hx
      clear hx HST hT
      gi_wp2
      refine ⟨fun _ h => (by cases h), ?_⟩
      gi_wp2
      go_end0
      exact ⟨⟨_, rfl⟩, .inl ⟨pre, HX.out.symm, hJ⟩⟩
    · rw [restV_at] at hx
      obtain ⟨fn, tmps, assign, body, hy, hR⟩ := HY.out pre j wr hJ ⟨_, hx.symm⟩ hsz
      have HX : Hid (_ = _) := hx
      have hne : ((j : Int) != -1) = true := by simp [bne]
      clear hx HST hT
      gi_wp2_with fail
      refine ⟨fun h => (by cases h), hR.mono ?_⟩
      rintro r w2 (⟨rfl, hJ2, hsz2⟩ | ⟨rfl, hJ2⟩)
      · clear c1 c2 c3
        obtain ⟨c1, c2, c3, hT⟩ := HC.out _ _ hJ2
        cases hfar : farV comb with
        | false =>
          rw [hfar] at c3
          have HE : Hid (aheadV E.es comb e = pre ++ [j]) := by
            have := HX.out
            show _ = _
            rw [show aheadV E.es comb e = _ from HX.out, hfar]
            rfl
          clear HX hT
          gi_wp2
          go_end0
          exact ⟨⟨_, rfl⟩, .inl ⟨_, HE.out.symm, hJ2⟩⟩
        | true =>
          rw [hfar] at c3
          have n1 := NX.out j w2 hT
          obtain ⟨f', rfl⟩ : ∃ f', f = f' + 1 := ⟨f - 1, by omega⟩
          have HE : Hid (aheadV E.es comb e = (pre ++ [j]) ++ restV E.es comb f' (nextV E.es comb j)) := by
            show _ = _
            rw [show aheadV E.es comb e = _ from HX.out, if_pos hfar, chain_succ]
            simp
          have hlt := NLT.out j hj
          have HL : Hid _ := hlt
          clear HX hT hlt
          gi_wp2_with fail
          refine ⟨trivial, fun h => (by cases h), ?_⟩
          refine (callsIn_wide.2 n1).mono ?_
          clear n1
          rintro r W3 ⟨rfl, rfl⟩
          gi_wp2
          go_roundw
          case rel =>
            refine ⟨_, pre ++ [j], f', rfl, HE.out, ?_, hJ2, Nat.le_trans hsz hsz2⟩
            rcases HL.out with h | ⟨k, h, hk⟩
            · exact .inl h
            · exact .inr ⟨k, h, by omega, by omega⟩
          case measure =>
            rcases HL.out with h | ⟨k, h, hk⟩
            · simp [intOf, h]
            · simp [intOf, h]; omega
      · gi_wp2
        go_end0
        exact ⟨⟨_, rfl⟩, .inr ⟨_, trivial, hJ2⟩⟩

set_option maxRecDepth 100000 in
set_option maxHeartbeats 2000000 in
theorem ahead1B_in (E : Env) (hE : EnvOk E) (n l Bn Be Bf : Nat) (comb : Int) (hcb : comb = 3 ∨ comb = 4) (e : Nat) (he : e < E.qs.length) (J Jx : List Nat → World → Prop) (W : World)
    (hC : ∀ s X, J s X → X.cell? ⟨Bn, 0, none⟩ = some (wayF E.tb comb) ∧ X.cell? ⟨Be, 0, none⟩ = some (.int .i64 e) ∧ X.cell? ⟨Bf, 0, none⟩ = some (.bool (farV comb)) ∧ Tr E.b X E.tb E.g E.cap E.qs)
    (hY : ∀ pre x W1, J pre W1 → (∃ rest, pre ++ x :: rest = aheadV E.es comb e) → W.heap.size ≤ W1.heap.size → YieldAt Fence.wide (n - 1) Try.prog l #[.int .i64 (x : Nat)] W1 fun x' W' => (x' = .returned (.bool true) ∧ J (pre ++ [x]) W' ∧ W1.heap.size ≤ W'.heap.size) ∨ (x' = .returned (.bool false) ∧ Jx (pre ++ [x]) W'))
    (h0 : J [] W) :
    CallsIn Fence.wide n Try.prog 72 #[.func (.yield l) #[] #[], .pointer (some ⟨Bn, 0, none⟩), .pointer (some ⟨Be, 0, none⟩), .pointer (some ⟨Bf, 0, none⟩)] W fun x W' => (∃ v, x = .returned v) ∧ ((∃ xs, xs = aheadV E.es comb e ∧ J xs W') ∨ (∃ pre, True ∧ Jx pre W')) := by
  have hF : wayF E.tb comb = .func (.func 87) #[.pointer (some ⟨E.tb, 0, none⟩)] #[] := by unfold wayF; rw [if_neg (by omega), if_pos hcb]
  have nx : ∀ (x : Nat) (X : World), Tr E.b X E.tb E.g E.cap E.qs → Calls Try.prog 87 #[.pointer (some ⟨E.tb, 0, none⟩), .int .i64 x] X fun r X' => r = .returned (.int .i64 (nextV E.es comb x)) ∧ X' = X := fun x X hT => by
    unfold nextV
    rw [if_neg (by omega), if_pos hcb]
    exact before_any E.b E.tb E.g E.cap E.qs x X hT hE.ok hE.few
  refine callsIn_of_wp Try.func72 rfl trivial ?_ rfl
  simp only [Try.ntmps72, List.size_toArray, List.length_cons, List.length_nil, Nat.reduceAdd, Nat.reduceSub, Array.replicate_succ, Array.replicate_zero, List.push_toArray, List.append_toArray, List.nil_append, List.cons_append]
  rw [hF] at hC
  obtain ⟨c1, c2, c3, hT⟩ := hC _ _ h0
  have n1 := nx e W hT
  have NX : Hid _ := nx
  have HC : Hid _ := hC
  have HY : Hid _ := hY
  have hlen : E.es.length = E.qs.length := List.length_map ..
  have NLT : Hid (∀ k : Nat, k < E.qs.length → nextV E.es comb k = -1 ∨ ∃ j : Nat, nextV E.es comb k = j ∧ j < k) := fun k hk => nextV_lt hE.ok (by rw [hlen]; exact hk) comb
  have HST : Hid (aheadV E.es comb e = restV E.es comb e (nextV E.es comb e)) := chain_succ _ _ _ _
  clear hT hE nx hC hF hlen hY hcb
  gi_wp2_with fail
  refine ⟨trivial, fun h => (by cases h), ?_⟩
  refine (callsIn_wide.2 n1).mono ?_
  clear n1
  rintro r W' ⟨rfl, rfl⟩
  gi_wp2
  gi_loopw [5] (fun x wr => ∃ (y : Int) (pre : List Nat) (f : Nat), x = .int .i64 y ∧ aheadV E.es comb e = pre ++ restV E.es comb f y ∧ (y = -1 ∨ ∃ j : Nat, y = j ∧ j < E.qs.length ∧ j < f) ∧ J pre wr ∧ W'.heap.size ≤ wr.heap.size) (fun x _ => (intOf x + 1).toNat)
  case atStart =>
    refine ⟨_, [], e, rfl, HST.out, ?_, h0, Nat.le_refl _⟩
    rcases NLT.out e he with h | ⟨j, h, hj⟩
    · exact .inl h
    · exact .inr ⟨j, h, by omega, hj⟩
  case round =>
    clear c1 c2 c3
    obtain ⟨y, pre, f, rfl, hx, hy, hJ, hsz⟩ := hrel
    obtain ⟨c1, c2, c3, hT⟩ := HC.out _ _ hJ
    rcases hy with rfl | ⟨j, rfl, hj, hjf⟩
    · rw [restV_end, List.append_nil] at hx
      have HX : Hid (_ = _) := hx
      clear hx HST hT
      gi_wp2
      refine ⟨fun _ h => (by cases h), ?_⟩
      gi_wp2
      go_end0
      exact ⟨⟨_, rfl⟩, .inl ⟨pre, HX.out.symm, hJ⟩⟩
    · rw [restV_at] at hx
      obtain ⟨fn, tmps, assign, body, hy, hR⟩ := HY.out pre j wr hJ ⟨_, hx.symm⟩ hsz
      have HX : Hid (_ = _) := hx
      have hne : ((j : Int) != -1) = true := by simp [bne]
      clear hx HST hT
      gi_wp2_with fail
      refine ⟨fun h => (by cases h), hR.mono ?_⟩
      rintro r w2 (⟨rfl, hJ2, hsz2⟩ | ⟨rfl, hJ2⟩)
      · clear c1 c2 c3
        obtain ⟨c1, c2, c3, hT⟩ := HC.out _ _ hJ2
        cases hfar : farV comb with
        | false =>
          rw [hfar] at c3
          have HE : Hid (aheadV E.es comb e = pre ++ [j]) := by
            have := HX.out
            show _ = _
            rw [show aheadV E.es comb e = _ from HX.out, hfar]
            rfl
          clear HX hT
          gi_wp2
          go_end0
          exact ⟨⟨_, rfl⟩, .inl ⟨_, HE.out.symm, hJ2⟩⟩
        | true =>
          rw [hfar] at c3
          have n1 := NX.out j w2 hT
          obtain ⟨f', rfl⟩ : ∃ f', f = f' + 1 := ⟨f - 1, by omega⟩
          have HE : Hid (aheadV E.es comb e = (pre ++ [j]) ++ restV E.es comb f' (nextV E.es comb j)) := by
            show _ = _
            rw [show aheadV E.es comb e = _ from HX.out, if_pos hfar, chain_succ]
            simp
          have hlt := NLT.out j hj
          have HL : Hid _ := hlt
          clear HX hT hlt
          gi_wp2_with fail
          refine ⟨trivial, fun h => (by cases h), ?_⟩
          refine (callsIn_wide.2 n1).mono ?_
          clear n1
          rintro r W3 ⟨rfl, rfl⟩
          gi_wp2
          go_roundw
          case rel =>
            refine ⟨_, pre ++ [j], f', rfl, HE.out, ?_, hJ2, Nat.le_trans hsz hsz2⟩
            rcases HL.out with h | ⟨k, h, hk⟩
            · exact .inl h
            · exact .inr ⟨k, h, by omega, by omega⟩
          case measure =>
            rcases HL.out with h | ⟨k, h, hk⟩
            · simp [intOf, h]
            · simp [intOf, h]; omega
      · gi_wp2
        go_end0
        exact ⟨⟨_, rfl⟩, .inr ⟨_, trivial, hJ2⟩⟩

set_option maxRecDepth 100000 in
theorem way1_any (x : Int) (w : World) : Calls Try.prog 88 #[.int .i64 x] w fun r w' => r = .returned (.int .i64 (-1)) ∧ w' = w := by
  go_enter Try.func88, Try.ntmps88
  go_wp2
  go_ret
  exact ⟨rfl, rfl⟩
set_option maxRecDepth 100000 in
set_option maxHeartbeats 2000000 in
theorem ahead1N_in (E : Env) (hE : EnvOk E) (n l Bn Be Bf : Nat) (comb : Int) (hcb : ¬ (comb = 1 ∨ comb = 2) ∧ ¬ (comb = 3 ∨ comb = 4)) (e : Nat) (he : e < E.qs.length) (J Jx : List Nat → World → Prop) (W : World)
    (hC : ∀ s X, J s X → X.cell? ⟨Bn, 0, none⟩ = some (wayF E.tb comb) ∧ X.cell? ⟨Be, 0, none⟩ = some (.int .i64 e) ∧ X.cell? ⟨Bf, 0, none⟩ = some (.bool (farV comb)) ∧ Tr E.b X E.tb E.g E.cap E.qs)
    (hY : ∀ pre x W1, J pre W1 → (∃ rest, pre ++ x :: rest = aheadV E.es comb e) → W.heap.size ≤ W1.heap.size → YieldAt Fence.wide (n - 1) Try.prog l #[.int .i64 (x : Nat)] W1 fun x' W' => (x' = .returned (.bool true) ∧ J (pre ++ [x]) W' ∧ W1.heap.size ≤ W'.heap.size) ∨ (x' = .returned (.bool false) ∧ Jx (pre ++ [x]) W'))
    (h0 : J [] W) :
    CallsIn Fence.wide n Try.prog 72 #[.func (.yield l) #[] #[], .pointer (some ⟨Bn, 0, none⟩), .pointer (some ⟨Be, 0, none⟩), .pointer (some ⟨Bf, 0, none⟩)] W fun x W' => (∃ v, x = .returned v) ∧ ((∃ xs, xs = aheadV E.es comb e ∧ J xs W') ∨ (∃ pre, True ∧ Jx pre W')) := by
  have hF : wayF E.tb comb = .func (.func 88) #[] #[] := by unfold wayF; rw [if_neg hcb.1, if_neg hcb.2]
  have nx : ∀ (x : Nat) (X : World), Tr E.b X E.tb E.g E.cap E.qs → Calls Try.prog 88 #[.int .i64 x] X fun r X' => r = .returned (.int .i64 (nextV E.es comb x)) ∧ X' = X := fun x X hT => by
    unfold nextV
    rw [if_neg hcb.1, if_neg hcb.2]
    exact way1_any x X
  refine callsIn_of_wp Try.func72 rfl trivial ?_ rfl
  simp only [Try.ntmps72, List.size_toArray, List.length_cons, List.length_nil, Nat.reduceAdd, Nat.reduceSub, Array.replicate_succ, Array.replicate_zero, List.push_toArray, List.append_toArray, List.nil_append, List.cons_append]
  rw [hF] at hC
  obtain ⟨c1, c2, c3, hT⟩ := hC _ _ h0
  have n1 := nx e W hT
  have NX : Hid _ := nx
  have HC : Hid _ := hC
  have HY : Hid _ := hY
  have hlen : E.es.length = E.qs.length := List.length_map ..
  have NLT : Hid (∀ k : Nat, k < E.qs.length → nextV E.es comb k = -1 ∨ ∃ j : Nat, nextV E.es comb k = j ∧ j < k) := fun k hk => nextV_lt hE.ok (by rw [hlen]; exact hk) comb
  have HST : Hid (aheadV E.es comb e = restV E.es comb e (nextV E.es comb e)) := chain_succ _ _ _ _
  clear hT hE nx hC hF hlen hY hcb
  gi_wp2_with fail
  refine ⟨trivial, fun h => (by cases h), ?_⟩
  refine (callsIn_wide.2 n1).mono ?_
  clear n1
  rintro r W' ⟨rfl, rfl⟩
  gi_wp2
  gi_loopw [5] (fun x wr => ∃ (y : Int) (pre : List Nat) (f : Nat), x = .int .i64 y ∧ aheadV E.es comb e = pre ++ restV E.es comb f y ∧ (y = -1 ∨ ∃ j : Nat, y = j ∧ j < E.qs.length ∧ j < f) ∧ J pre wr ∧ W'.heap.size ≤ wr.heap.size) (fun x _ => (intOf x + 1).toNat)
  case atStart =>
    refine ⟨_, [], e, rfl, HST.out, ?_, h0, Nat.le_refl _⟩
    rcases NLT.out e he with h | ⟨j, h, hj⟩
    · exact .inl h
    · exact .inr ⟨j, h, by omega, hj⟩
  case round =>
    clear c1 c2 c3
    obtain ⟨y, pre, f, rfl, hx, hy, hJ, hsz⟩ := hrel
    obtain ⟨c1, c2, c3, hT⟩ := HC.out _ _ hJ
    rcases hy with rfl | ⟨j, rfl, hj, hjf⟩
    · rw [restV_end, List.append_nil] at hx
      have HX : Hid (_ = _) := hx
      clear hx HST hT
      gi_wp2
      refine ⟨fun _ h => (by cases h), ?_⟩
      gi_wp2
      go_end0
      exact ⟨⟨_, rfl⟩, .inl ⟨pre, HX.out.symm, hJ⟩⟩
    · rw [restV_at] at hx
      obtain ⟨fn, tmps, assign, body, hy, hR⟩ := HY.out pre j wr hJ ⟨_, hx.symm⟩ hsz
      have HX : Hid (_ = _) := hx
      have hne : ((j : Int) != -1) = true := by simp [bne]
      clear hx HST hT
      gi_wp2_with fail
      refine ⟨fun h => (by cases h), hR.mono ?_⟩
      rintro r w2 (⟨rfl, hJ2, hsz2⟩ | ⟨rfl, hJ2⟩)
      · clear c1 c2 c3
        obtain ⟨c1, c2, c3, hT⟩ := HC.out _ _ hJ2
        cases hfar : farV comb with
        | false =>
          rw [hfar] at c3
          have HE : Hid (aheadV E.es comb e = pre ++ [j]) := by
            have := HX.out
            show _ = _
            rw [show aheadV E.es comb e = _ from HX.out, hfar]
            rfl
          clear HX hT
          gi_wp2
          go_end0
          exact ⟨⟨_, rfl⟩, .inl ⟨_, HE.out.symm, hJ2⟩⟩
        | true =>
          rw [hfar] at c3
          have n1 := NX.out j w2 hT
          obtain ⟨f', rfl⟩ : ∃ f', f = f' + 1 := ⟨f - 1, by omega⟩
          have HE : Hid (aheadV E.es comb e = (pre ++ [j]) ++ restV E.es comb f' (nextV E.es comb j)) := by
            show _ = _
            rw [show aheadV E.es comb e = _ from HX.out, if_pos hfar, chain_succ]
            simp
          have hlt := NLT.out j hj
          have HL : Hid _ := hlt
          clear HX hT hlt
          gi_wp2_with fail
          refine ⟨trivial, fun h => (by cases h), ?_⟩
          refine (callsIn_wide.2 n1).mono ?_
          clear n1
          rintro r W3 ⟨rfl, rfl⟩
          gi_wp2
          go_roundw
          case rel =>
            refine ⟨_, pre ++ [j], f', rfl, HE.out, ?_, hJ2, Nat.le_trans hsz hsz2⟩
            rcases HL.out with h | ⟨k, h, hk⟩
            · exact .inl h
            · exact .inr ⟨k, h, by omega, by omega⟩
          case measure =>
            rcases HL.out with h | ⟨k, h, hk⟩
            · simp [intOf, h]
            · simp [intOf, h]; omega
      · gi_wp2
        go_end0
        exact ⟨⟨_, rfl⟩, .inr ⟨_, trivial, hJ2⟩⟩


end Go.Proofs.Ytgjfapdnobhkcab.Mt
