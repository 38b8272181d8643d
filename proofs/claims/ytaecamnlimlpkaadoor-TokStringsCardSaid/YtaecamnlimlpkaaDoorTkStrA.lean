/- The law tapestrierlaw4.TokStrings where the string is closed. -/
import Derived.Test.YtaecamnlimlpkaaDoorTkUse
namespace Go.Proofs.YtaecamnlimlpkaaDoor
open Go Go.ChangeShapes Go.WideShapes Go.ChangeAt Go.RowKit

/-- What the law lets into a string. -/
def okStr (u : UInt8) : Prop := 32 ≤ u.toNat ∧ u.toNat ≤ 126 ∧ u.toNat ≠ 34 ∧ u.toNat ≠ 39 ∧ u.toNat ≠ 92
theorem okStr_all {s : ByteArray} (h : ∀ j, j < s.size → okStr (s.get! j)) : ∀ u ∈ s.data.toList, okStr u := by
  intro u hu
  obtain ⟨j, hj, rfl⟩ := List.mem_iff_getElem.1 hu
  have hj' : j < s.size := by rw [← Nm.len_list]; exact hj
  have e := Nm.at_list s j hj'
  rw [List.getElem?_eq_getElem hj] at e
  rw [Option.some.inj e]
  exact h j hj'
theorem okStr_in {l : List UInt8} (h : ∀ u ∈ l, okStr u) : (ints l).all inStr = true := by
  rw [List.all_eq_true]
  intro c hc
  obtain ⟨u, hu, rfl⟩ := List.mem_map.1 hc
  obtain ⟨h1, h2, h3, h4, h5⟩ := h u hu
  simp only [inStr, Bool.and_eq_true, bne_iff_ne]
  omega
theorem prep_okStr {q : UInt8} (hq : q.toNat = 34 ∨ q.toNat = 39) {l x : List UInt8} (h : ∀ u ∈ l, okStr u) (hx : ∀ u ∈ x, u.toNat = 34 ∨ u.toNat = 39 ∨ u.toNat = 97 ∨ u.toNat = 10) : prep (ipts (q :: l ++ x)) = (q.toNat : Int) :: ints l ++ ints x := by
  rw [prep_ints, ints_append]
  · rfl
  · intro u hu
    rw [List.mem_append, List.mem_cons] at hu
    rcases hu with (rfl | hu) | hu
    · omega
    · obtain ⟨h1, h2, h3, h4, h5⟩ := h u hu; omega
    · have := hx u hu; omega

set_option maxRecDepth 100000 in
set_option maxHeartbeats 4000000 in
theorem tokStrings_shut (w : World) (hT : LTabs w.heap.size w) (s : ByteArray) (_hs : s.size ≤ maxLen) (one : Bool) :
    Calls Tryd.prog 4 #[.string s, .bool one, .bool true] w fun e w' => e = .returned (.bool true) ∧ Below w.heap.size w w' := by
  obtain ⟨i0, hi, hz0, hz1, hz2⟩ := info_parts infoTk
  have h0 := alive_any w hT
  by_cases hlen : s.size ≤ 300
  · go_enter Tryd.func4, Tryd.ntmps4
    go_wp2_with fail
    refine h0.mono ?_
    clear h0
    rintro e w1 ⟨rfl, b1⟩
    have T1 := hT.next b1
    go_wp2
    go_loopw [8] (fun i wr => ∃ k : Nat, i = .int .i64 k ∧ k ≤ s.size ∧ wr = w1 ∧ ∀ j, j < k → okStr (s.get! j)) (fun i _ => s.size - (intOf i).toNat)
    case atStart => exact ⟨0, rfl, Nat.zero_le _, rfl, fun j hj => absurd hj (Nat.not_lt_zero j)⟩
    case round =>
      obtain ⟨k, rfl, hk, rfl, hall⟩ := hrel
      by_cases hlt : k < s.size
      · have hnext : okStr (s.get! k) → ∀ j, j < k + 1 → okStr (s.get! j) := fun hd j hj => by
          by_cases e : j = k
          · subst e; exact hd
          · exact hall j (by omega)
        have hget := Nm.get_at s k hlt
        clear hall
        generalize s.get! k = c at *
        go_wp2
        case roundEnd =>
          have hh := ‹(((32 ≤ (c.toNat : Int) ∧ (c.toNat : Int) ≤ 126) ∧ ((c.toNat : Int) == 34) = false) ∧ ((c.toNat : Int) == 39) = false) ∧ ((c.toNat : Int) == 92) = false›
          have h92 : c.toNat ≠ 92 := fun e => by rw [e] at hh; exact absurd hh.2 (by decide)
          exact ⟨⟨k + 1, by go_num, by omega, trivial, hnext (by unfold okStr; omega)⟩, by simp [intOf]; omega⟩
        all_goals (go_ret; exact ⟨rfl, b1⟩)
      · have hke : k = s.size := by omega
        subst hke
        have hok := okStr_all hall
        clear hall
        go_upto_if 55 with fail
        go_cut [9] (fun s9 wx => ∃ q : UInt8, s9 = .string ⟨#[q]⟩ ∧ (q.toNat = 34 ∨ q.toNat = 39) ∧ wx = wr)
        case first =>
          cases one with
          | true =>
            go_wp2
            go_meet
            exact ⟨39, rfl, by decide, rfl⟩
          | false =>
            go_wp2
            go_meet
            exact ⟨34, rfl, by decide, rfl⟩
        case rest =>
          obtain ⟨q, rfl, hq, rfl⟩ := hcut
          have hpl : ∀ u ∈ s.data.toList, u.toNat < 128 := fun u hu => by have := hok u hu; unfold okStr at this; omega
          have htx := txt_plain (s := s) rfl hpl
          have tw := tks_new wc [⟨4, ints s.data.toList, 0, false, 0⟩] (by simp)
          have ow := owns_new wc [⟨4, ints s.data.toList, 0, false, 0⟩] (by simp)
          have ec : (tksCells [⟨4, ints s.data.toList, 0, false, 0⟩]).toArray = #[.int .i64 4, .string s, .int .i64 0, .bool false, .int .i64 0] := by simp [tksCells, tkCells, htx]
          rw [ec] at tw ow
          have b2 : Below wc.heap.size wc (wc.alloc (.cells #[.int .i64 4, .string s, .int .i64 0, .bool false, .int .i64 0] 26)) := (Below.refl _ wc).alloc (Nat.le_refl _) _
          have s2 : (wc.alloc (.cells #[.int .i64 4, .string s, .int .i64 0, .bool false, .int .i64 0] 26)).heap.size = wc.heap.size + 1 := World.size_alloc _ _
          have T2 := T1.next b2
          go_upto_region 13 with fail
          generalize wc.alloc (.cells #[.int .i64 4, .string s, .int .i64 0, .bool false, .int .i64 0] 26) = w2 at *
          have hqs : (⟨#[q]⟩ : ByteArray).size = 1 := rfl
          have ha1 : (⟨#[97]⟩ : ByteArray).size = 1 := rfl
          obtain ⟨p3, m3, c3, w3, hrun, hB, b3, _⟩ := conv_str (⟨#[q]⟩ ++ s ++ ⟨#[q]⟩ ++ ⟨#[97]⟩) w2 (by simp only [ByteArray.size_append, hqs, ha1]; omega)
          rw [show (⟨#[q]⟩ ++ s ++ ⟨#[q]⟩ ++ ⟨#[97]⟩ : ByteArray).data.toList = q :: s.data.toList ++ [q, 97] by simp [ByteArray.data_append]] at hB
          have h4 := ofB_any _ _ w3 hB (T2.next b3) (by simp; omega)
          have e4 : tksOf (q :: s.data.toList ++ [q, 97]) = [⟨4, ints s.data.toList, 0, false, 0⟩, ⟨1, [97], 0, false, 0⟩] := by
            unfold tksOf
            rw [prep_okStr hq hok (by simp; exact hq.elim .inl (.inr ∘ .inl))]
            exact (toks_strings nvOf (q := (q.toNat : Int)) (by omega) (okStr_in hok)).1
          rw [e4] at h4
          clear e4
          go_wp2_with fail
          refine h4.mono ?_
          clear h4 hrun hB
          rintro e w4 ⟨v4, rfl, r4, b4⟩
          have b34 := b3.trans (b4.mono b3.size)
          have ow4 : w4.ownsRow wc.heap.size _ _ _ _ _ := ow.kept (grown_of_below b34 none) (.inr (by simp [Value.ownBlock]))
          have hs4 := b34.size
          have hs3 := b3.size
          go_wp2_with (at_builtin; refine wpList_append_own _ rfl _ _ 27 rfl wc.heap.size 26 i0 (.agg #[.int .i64 0, .string ⟨#[]⟩, .int .i64 0, .bool false, .int .i64 0]) 5 48 Tryd.underlying27 hi hz0 hz1 hz2 rfl (by decide) _ _ _ rfl (ow4.alloc _) ⟨w4.heap.size, 0, none⟩ 1 1 (tkCells ⟨1, [97], 0, false, 0⟩) rfl rfl (cells_new _ (tkCells ⟨1, [97], 0, false, 0⟩) _) (fun u hu => by simp [tkCells] at hu; rcases hu with rfl | rfl | rfl | rfl | rfl <;> rfl) (by unfold maxLen; simp) (by simp) (by simp; omega) ?_; intro v5 w5 hown5 hgrow5 hnil5)
          have r5 := (r4.alloc (.cells (tkCells ⟨1, [97], 0, false, 0⟩).toArray 26)).kept hgrow5 (.inr (fun e => by have : w3.heap.size ≤ wc.heap.size := (r4.lt _ e).1; omega))
          have bb4 := (b1.trans (b2.mono b1.size)).trans (b34.mono (by have := b1.size; omega))
          have bb5 : Below w.heap.size w w5 := (bb4.alloc bb4.size _).grown hgrow5 (by have := bb4.size; simp; omega) (fun j e => by cases e; exact b1.size)
          have h6 := sameToks_yes v4 v5 [⟨4, ints s.data.toList, 0, false, 0⟩, ⟨1, [97], 0, false, 0⟩] w5 (TksAt.of_owns r5) (TksAt.of_owns hown5) (by simp)
          go_wp2_with fail
          refine h6.mono ?_
          rintro e w6 ⟨rfl, b6⟩
          go_wp2
          go_ret
          exact ⟨rfl, bb5.trans (b6.mono bb5.size)⟩
  · go_enter Tryd.func4, Tryd.ntmps4
    go_wp2_with fail
    refine h0.mono ?_
    clear h0
    rintro e w1 ⟨rfl, b1⟩
    go_wp2
    go_ret
    exact ⟨rfl, b1⟩


end Go.Proofs.YtaecamnlimlpkaaDoor
