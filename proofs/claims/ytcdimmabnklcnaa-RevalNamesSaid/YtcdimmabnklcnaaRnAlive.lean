/- The laws of stage 14: their own alive. -/
import Derived.Test.YtcdimmabnklcnaaRnWalk
import Derived.Test.YtcdimmabnklcnaaWgB
namespace Go.Proofs.Ytcdimmabnklcnaa.Rf
open Go Go.RowKit Sl Wg Go.Proofs.Ytcdimmabnklcnaa.Tre

def text14 : List UInt8 := [97, 32, 62, 32, 98, 44, 32, 97, 32, 43, 32, 98]
theorem alive14_plain : (match parseV (tksB text14) with
  | some [a, b] => !needsV a && needsV b
  | _ => false) = true := by decide +kernel
theorem alive14_two : ∃ a b, parseV (tksB text14) = some [a, b] ∧ needsV a = false ∧ needsV b = true := by
  have h := alive14_plain
  split at h
  · rename_i a b e
    rw [Bool.and_eq_true, Bool.not_eq_true'] at h
    exact ⟨a, b, e, h.1, h.2⟩
  · cases h

set_option maxRecDepth 100000 in
set_option maxHeartbeats 1000000 in
theorem alive14_any (w : World) : Calls Try.prog 5 #[] w fun e w' => e = .returned (.bool true) ∧ Below w.heap.size w w' := by
  obtain ⟨a, b, hab, ha, hb⟩ := alive14_two
  have h1 := sels_any ⟨#[97, 32, 62, 32, 98, 44, 32, 97, 32, 43, 32, 98]⟩ w (by decide)
  rw [show (⟨#[97, 32, 62, 32, 98, 44, 32, 97, 32, 43, 32, 98]⟩ : ByteArray).data.toList = text14 from rfl, hab] at h1
  clear hab
  go_enter Try.func5, Try.ntmps5
  go_wp2_with fail
  refine h1.mono ?_
  clear h1
  rintro e w1 ⟨l1, y1, rfl, hR1, b1, hv1⟩
  obtain rfl : l1 = [a, b] := by
    rcases hv1 with h | ⟨h, _⟩
    · exact (Option.some.inj h).symm
    · cases h
  obtain ⟨q1, c1, rfl⟩ := RowT.len hR1
  obtain ⟨bk, off, x, rfl, hbk, g1, g2, hxa, y0⟩ := SelsR.get hR1 (k := 0) (s := a) rfl
  obtain ⟨bk', off', x', e', _, _, _, hxb, y1⟩ := SelsR.get hR1 (k := 1) (s := b) rfl
  cases e'
  obtain ⟨xp, xc, rfl⟩ := RowT.len hxa
  obtain ⟨xp', xc', rfl⟩ := RowT.len hxb
  have hna := needs_any 8 a _ w1 hxa
  rw [ha] at hna
  have HNB : Hid (∀ X, Below w1.heap.size w1 X → Calls Try.prog 11 #[.agg #[.slice xp' b.length xc']] X fun r w' => r = .returned (.bool true) ∧ Below X.heap.size X w') := fun X hX => by
    have h := needs_any 8 b _ X (PartsR.next hxb hX)
    rwa [hb] at h
  have HY1 : Hid (∀ X, Below w1.heap.size w1 X → X.cell? ⟨bk, off + 1, none⟩ = some (.slice xp' b.length xc')) := fun X hX => (hX.cell (p := ⟨bk, off + 1, none⟩) hbk).trans y1
  simp only [Nat.add_zero] at y0
  simp only [List.length_cons, List.length_nil, Nat.zero_add, Nat.reduceAdd] at g1
  unfold maxLen at g2
  clear hR1 hv1 hxa hxb ha hb y1 hbk
  go_wp2_with fail
  refine hna.mono ?_
  clear hna
  rintro r w2 ⟨rfl, b2⟩
  have hnb := HNB.out w2 b2
  have y1 := HY1.out w2 b2
  have B2 := below_next b1 b2
  go_wp2_with fail
  refine hnb.mono ?_
  clear hnb
  rintro r w3 ⟨rfl, b3⟩
  have B3 := below_next B2 b3
  go_wp2
  go_ret
  exact ⟨rfl, B3⟩

end Go.Proofs.Ytcdimmabnklcnaa.Rf
