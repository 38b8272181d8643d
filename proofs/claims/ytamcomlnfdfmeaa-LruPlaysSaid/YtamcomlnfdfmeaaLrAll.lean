/- Package lru: a list's entries as an iterator; how many there are. -/
import Derived.Test.YtamcomlnfdfmeaaLrMem
namespace Go.Proofs.Ytamcomlnfdfmeaa.Lr
open Go Go.RowKit Go.Shelf Sl
attribute [local go_sem] Oper.semAt_some

theorem egEnt : ∀ args w, (callFunc 23 args).run Try.prog w = .ok (.enter 23 args) w := enters_of Try.func23 (by kernel_rfl) rfl
set_option maxRecDepth 100000 in
theorem all_any (b : Nat) (w : World) :
    Calls Try.prog 20 #[.pointer (some ⟨b, 0, none⟩)] w fun e w' => e = .returned (.func (.func 23) #[] #[.pointer (some ⟨w.heap.size, 0, none⟩)]) ∧ w' = w.alloc (.cells #[.pointer (some ⟨b, 0, none⟩)] 53) := by
  go_enter Try.func20, Try.ntmps20
  go_wp2
  go_ret
  exact ⟨rfl, rfl⟩

set_option maxRecDepth 100000 in
theorem count_any (b s : Nat) (v : Value) (l : List En) (w : World) (h : LV w b s v l) :
    Calls Try.prog 21 #[.pointer (some ⟨b, 0, none⟩)] w fun e w' => e = .returned (.int .i64 l.length) ∧ w' = w := by
  obtain ⟨p, cap, rfl⟩ := h.row.form
  obtain ⟨_, c1, _⟩ := h.cells
  go_enter Try.func21, Try.ntmps21
  go_wp2
  go_ret
  exact ⟨rfl, rfl⟩

set_option maxRecDepth 100000 in
set_option maxHeartbeats 2000000 in
/-- The iterator: it reads its box and the cache at its beginning, and the list's row all the time. -/
theorem all_seq (n : Nat) (B b s : Nat) (v : Value) (l : List En) (w : World) (hB : w.cell? ⟨B, 0, none⟩ = some (.pointer (some ⟨b, 0, none⟩))) (hl : LV w b s v l) :
    SeqE Fence.wide n Try.prog 23 #[.pointer (some ⟨B, 0, none⟩)] (fun x : En => #[.int .i64 x.1, .int .i64 x.2]) (fun r => r = B ∨ r = b ∨ v.ownBlock = some r) (fun r => v.ownBlock = some r) l w := by
  intro L J Jx D W hR hs hRD hD hJ hJx hY h0
  have dB : W.cell? ⟨B, 0, none⟩ = some (.pointer (some ⟨b, 0, none⟩)) := (World.cell?_of_block (a := ⟨B, 0, none⟩) (hR B (.inl rfl))).trans hB
  have dl : LV W b s v l := hl.kept (hR b (.inr (.inl rfl))) (fun r hr => hR r (.inr (.inr hr)))
  clear hB hl hR
  have HY : Hid (∀ pre x post D1 W1, l = pre ++ x :: post → J pre D1 W1 → Fr D D1 W W1 → YieldAt Fence.wide (n - 1) Try.prog L #[.int .i64 x.1, .int .i64 x.2] W1 fun e W' =>
      (e = .returned (.bool true) ∧ ∃ D', J (pre ++ [x]) D' W' ∧ Fr D1 D' W1 W') ∨ (e = .returned (.bool false) ∧ ∃ D', Jx (pre ++ [x]) D' W' ∧ Fr D1 D' W1 W')) := hY
  have HD : Hid (∀ r, D r → r < W.heap.size) := hD
  obtain ⟨p, cap, rfl⟩ := dl.row.form
  have hsh := dl.few
  have Hl : Hid (∀ X E, Fr D E W X → LE X (.slice p l.length cap) l) := fun X E fr => dl.row.kept (fun r hr => fr.block r (dl.row.lt hr) (hRD r hr))
  obtain ⟨_, dC, _⟩ := dl.cells
  have hlt : Hid (b < W.heap.size ∧ B < W.heap.size) := ⟨dl.lt, World.block_lt_of_cell? W ⟨B, 0, none⟩ dB⟩
  clear hY hD dl hRD hs
  refine callsIn_of_wp Try.func23 rfl trivial ?_ rfl
  simp only [Try.ntmps23, List.size_toArray, List.length_cons, List.length_nil, Nat.reduceAdd, Nat.reduceSub, Array.replicate_succ, Array.replicate_zero, List.push_toArray, List.append_toArray, List.nil_append, List.cons_append]
  have fr0 : Fr D D W W := Fr.refl HD.out
  gi_wp2_with fail
  gi_loopw [10] (fun x wr => ∃ (k : Nat) (E : Nat → Prop), x = .int .i64 k ∧ k ≤ l.length ∧ J (l.take k) E wr ∧ Fr D E W wr) (fun x _ => l.length - (intOf x).toNat)
  case atStart => exact ⟨0, D, rfl, Nat.zero_le _, (by rw [List.take_zero]; exact h0), fr0⟩
  case round =>
    obtain ⟨k, E, rfl, hk, hJk, frk⟩ := hrel
    have HFk : Hid (Fr D E W wr) := frk
    by_cases hkl : k < l.length
    · have hlt2 : decide (k < l.length) = true := by simpa using hkl
      obtain ⟨⟨x, y⟩, hx⟩ : ∃ x, l[k]? = some x := ⟨_, List.getElem?_eq_getElem hkl⟩
      obtain ⟨g, rfl, c1, c2⟩ := (Hl.out wr E frk).get hx
      simp only at c1 c2
      have hki : (k : Int) < (l.length : Int) := by omega
      obtain ⟨rest, hrest⟩ : ∃ rest, l = l.take k ++ (x, y) :: rest := ⟨l.drop (k + 1), by
        have := List.take_append_drop (k + 1) l
        rw [List.take_add_one, hx, List.append_assoc] at this
        exact this.symm⟩
      have htk : l.take (k + 1) = l.take k ++ [(x, y)] := by rw [List.take_add_one, hx]; rfl
      have HT : Hid (_ = _) := htk
      have HP : Hid (_ = _) := hrest
      obtain ⟨tk, htk2⟩ : ∃ tk, l.take k = tk := ⟨_, rfl⟩
      have H2 : Hid (_ = _) := htk2
      rw [htk2] at hJk
      have hJ2 : J tk E (wr.alloc (.cells #[.int .i64 x, .int .i64 y] 56)) := hJ _ _ _ _ hJk ((Kd.refl _ _).alloc _ HFk.out.lt)
      have fr2 : Fr D E W (wr.alloc (.cells #[.int .i64 x, .int .i64 y] 56)) := HFk.out.alloc _
      obtain ⟨fn, tmps, assign, body, hy, hRo⟩ := HY.out tk (x, y) rest E _ (by rw [← htk2]; exact hrest) hJ2 fr2
      have HF2 : Hid (Fr D E W _) := fr2
      have HE : Hid (l = tk ++ (x, y) :: rest) := by show _ = _; rw [← htk2]; exact hrest
      clear htk hrest htk2 hx hk frk hJ2 fr2 hJk
      gi_wp2_with fail
      refine ⟨fun h => (by cases h), hRo.mono ?_⟩
      clear hRo hy c1 c2
      rintro e w3 (⟨rfl, E', hJ', fr'⟩ | ⟨rfl, E', hJ', fr'⟩)
      · gi_wp2
        go_roundw
        case rel => exact ⟨k + 1, E', by go_num, by omega, (by rw [HT.out, H2.out]; exact hJ'), HF2.out.trans fr'⟩
        case measure => simp [intOf] <;> omega
      · gi_wp2
        refine bodyPost_ret (results_none rfl _ _ _) rfl ?_
        exact ⟨⟨_, rfl⟩, E', HF2.out.trans fr', .inr ⟨_, _, _, HE.out, hJ'⟩⟩
    · have hlt2 : decide (k < l.length) = false := by simpa using hkl
      obtain rfl : k = l.length := by omega
      rw [List.take_length] at hJk
      clear hk hkl frk
      gi_wp2
      go_end0
      exact ⟨⟨_, rfl⟩, E, HFk.out, .inl hJk⟩

end Go.Proofs.Ytamcomlnfdfmeaa.Lr
