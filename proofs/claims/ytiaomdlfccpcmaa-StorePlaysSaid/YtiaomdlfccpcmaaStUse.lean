/- A store of the call's own; the example that all laws call. -/
import Derived.Test.YtiaomdlfccpcmaaStAdd
namespace Go.Proofs.Ytiaomdlfccpcmaa.Sto
open Go Go.RowKit Sl

/-- A store of the call's own. -/
structure Own (w : World) (b n : Nat) (l : List He) (X : World) : Prop where
  at_ : ST X b l
  few : Few n l
  low : w.heap.size ≤ b
  below : Below w.heap.size w X
section
variable {w X Y : World} {b n : Nat} {l : List He}
theorem Own.lt (h : Own w b n l X) : b < X.heap.size := h.at_.lt
theorem Own.next (h : Own w b n l X) (hb : Below X.heap.size X Y) : Own w b n l Y := ⟨h.at_.next hb, h.few, h.low, h.below.trans (hb.mono h.below.size)⟩
theorem Own.chg {l' : List He} {m : Nat} (h : Own w b n l X) (hs : ST Y b l') (hf : Few m l') (hc : Chg b X Y) : Own w b m l' Y := ⟨hs, hf, h.low, h.below.trans (hc.below h.below.size h.low)⟩
theorem Own.mono {m : Nat} (h : Own w b n l X) (hm : n ≤ m) : Own w b m l X := ⟨h.at_, h.few.mono hm, h.low, h.below⟩
theorem Own.start (w X : World) (hb : Below w.heap.size w X) : Own w X.heap.size 0 [] (X.alloc (.cells #[.pointer none, .int .i64 0, .int .i64 0] 28)) :=
  ⟨ST.new X, Few.nil 0, hb.size, hb.alloc hb.size _⟩
theorem Own.new (h : Own w b n l X) (hn : n ≤ 1000) (s : Nat → Int) :
    Calls Try.prog 7 #[.pointer (some ⟨b, 0, none⟩), sty s] X fun e w' => e = .returned (.int .i64 l.length) ∧ Own w b (n + 1) (newL l s) w' ∧ Chg b X w' := by
  refine Calls.mono (new_any b l s X (by have := h.few.len; omega) h.at_) ?_
  rintro e w' ⟨he, hs, hc⟩
  exact ⟨he, h.chg hs (h.few.new s) hc, hc⟩
theorem Own.hold (h : Own w b n l X) (hn : n ≤ 1000) {i : Int} (hi : i ≤ 9223372036854775807) :
    Calls Try.prog 10 #[.pointer (some ⟨b, 0, none⟩), .int .i64 i] X fun e w' => e = .returned (.int .i64 (addR l i)) ∧ Own w b (n + 1) (addL l i 1) w' ∧ Chg b X w' := by
  refine Calls.mono (hold_any b n l i X (by omega) h.few hi h.at_) ?_
  rintro e w' ⟨he, hs, hc⟩
  exact ⟨he, h.chg hs (h.few.add i (.inl rfl)) hc, hc⟩
theorem Own.release (h : Own w b n l X) (hn : n ≤ 1000) {i : Int} (hi : i ≤ 9223372036854775807) :
    Calls Try.prog 12 #[.pointer (some ⟨b, 0, none⟩), .int .i64 i] X fun e w' => e = .returned (.int .i64 (addR l i)) ∧ Own w b (n + 1) (addL l i (-1)) w' ∧ Chg b X w' := by
  refine Calls.mono (release_any b n l i X (by omega) h.few hi h.at_) ?_
  rintro e w' ⟨he, hs, hc⟩
  exact ⟨he, h.chg hs (h.few.add i (.inr rfl)) hc, hc⟩
theorem Own.get (h : Own w b n l X) {i : Int} (hi : i ≤ 9223372036854775807) :
    Calls Try.prog 14 #[.pointer (some ⟨b, 0, none⟩), .int .i64 i] X fun e w' => e = .returned (.tuple #[sty (getV l i).1, .int .i64 (getV l i).2]) ∧ Own w b n l w' ∧ Below X.heap.size X w' := by
  refine Calls.mono (get_any b l i X hi h.at_) ?_
  rintro e w' ⟨he, hb⟩
  exact ⟨he, h.next hb, hb⟩
theorem Own.count (h : Own w b n l X) {i : Int} (hi : i ≤ 9223372036854775807) :
    Calls Try.prog 16 #[.pointer (some ⟨b, 0, none⟩), .int .i64 i] X fun e w' => e = .returned (.int .i64 (cntV l i)) ∧ Own w b n l w' ∧ Below X.heap.size X w' := by
  refine Calls.mono (count_any b l i X hi h.at_) ?_
  rintro e w' ⟨he, hb⟩
  exact ⟨he, h.next hb, hb⟩
theorem Own.live (h : Own w b n l X) :
    Calls Try.prog 18 #[.pointer (some ⟨b, 0, none⟩)] X fun e w' => e = .returned (.int .i64 (liveN l)) ∧ w' = X := live_any b l X h.at_
end
set_option maxRecDepth 100000 in
set_option maxHeartbeats 400000 in
theorem eq_sty (a : Nat → Int) (w : World) : (Op.equalIn 10000 35 (sty a) (sty a)).run Try.prog w = .ok true w := by
  rw [show (10000 : Nat) = 9999 + 1 from rfl, Op.equalIn]
  simp only [Sem.run_bind, run_underlying Try.underlying35, Result.andThen_ok]
  simp only [Std.Legacy.Range.forIn_eq_forIn_range', Std.Legacy.Range.size, Nat.sub_zero, Nat.add_sub_cancel, Nat.div_one, List.range'_succ, List.range'_zero, List.forIn_cons, List.forIn_nil]
  go_simp
theorem SAt.store {X Y : World} {b B : Nat} {l : List He} {s : Nat → Int} (k : SAt X B s) (hb : ST X b l) (hc : Chg b X Y) : SAt Y B s :=
  (hc.block B k.lt (fun e => by subst e; obtain ⟨p, hb, _⟩ := hb; have h1 : X.heap[B]? = _ := k; rw [show X.heap[B]? = _ from hb] at h1; cases h1)).trans k
set_option maxRecDepth 100000 in
theorem num_any (n : Int) (w : World) : Calls Try.prog 9 #[.int .i64 n] w fun e w' => e = .returned (.int .i64 n) ∧ w' = w := by
  go_enter Try.func9, Try.ntmps9
  go_wp2
  go_ret
  exact ⟨rfl, rfl⟩

set_option maxRecDepth 100000 in
set_option maxHeartbeats 400000 in
theorem alive_any (w : World) : Calls Try.prog 6 #[] w fun e w' => e = .returned (.bool true) ∧ Below w.heap.size w w' := by
  have M0 := Own.start w w (Below.refl _ _)
  obtain ⟨s, hs⟩ : ∃ s : Nat → Int, s = fun i => if i = 0 then 7 else 0 := ⟨_, rfl⟩
  have hn := M0.new (by decide) s
  have hsty : sty s = .agg #[.int .i64 7, .int .i64 0, .int .i64 0, .int .i64 0, .int .i64 0, .int .i64 0, .int .i64 0, .int .i64 0] := by rw [hs]; rfl
  rw [hsty] at hn
  have hnum := num_any
  clear M0 hs hsty
  go_enter Try.func6, Try.ntmps6
  go_wp2_with fail
  go_at_call 7
  refine Calls.mono hn ?_
  clear hn
  rintro e w1 ⟨rfl, M1, _⟩
  have hr := M1.release (by decide) (i := 0) (by decide)
  rw [show addR (newL [] s) 0 = 0 from rfl] at hr
  clear M1
  go_wp2_with fail
  go_at_call 12
  refine Calls.mono hr ?_
  clear hr
  rintro e w2 ⟨rfl, M2, _⟩
  have hr := M2.hold (by decide) (i := 0) (by decide)
  rw [show addR (addL (newL [] s) 0 (-1)) 0 = 6 from rfl] at hr
  clear M2
  go_wp2_with fail
  go_at_call 10
  refine Calls.mono hr ?_
  clear hr
  rintro e w3 ⟨rfl, M3, _⟩
  have h0 := hnum 0 w3
  have h6 := hnum 6 w3
  go_wp2_with fail
  go_at_call 9
  refine Calls.mono h0 ?_
  clear h0
  rintro e w4 ⟨rfl, rfl⟩
  go_wp2_with fail
  go_at_call 9
  refine Calls.mono h6 ?_
  clear h6
  rintro e w5 ⟨rfl, rfl⟩
  go_wp2
  go_ret
  exact ⟨rfl, M3.below⟩

end Go.Proofs.Ytiaomdlfccpcmaa.Sto
