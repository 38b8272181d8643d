/- The tokens of bytes by the document's own reader; the laws' own 'alive' and 'Big'. -/
import Derived.Test.YteihbpmmjlkkgaaRtTok
import Derived.Test.YteihbpmmjlkkgaaRefPts
import Derived.Test.YteihbpmmjlkkgaaBack
import Derived.Test.YteihbpmmjlkkgaaRsParse
import Derived.Lib.SlBytesConst
import Derived.Lib.ConvBytes
namespace Go.Proofs.Yteihbpmmjlkkgaa
open Go Go.RowKit Go.Shelf

theorem prep_len5 (bs : List UInt8) : (prep (ipts bs)).length ≤ bs.length := Nat.le_trans (prep_length_le _) (ipts_length_le _)
theorem prep_fixed5 (bs : List UInt8) : (prep (ipts bs)).map fixC = prep (ipts bs) := map_fixC_same _ (fun p hp => (prepared_clean bs p hp).2.2.2)

/-- The tokens of bytes. -/
def tksB (bs : List UInt8) : List Bt := (toks Ref.nv (prep (ipts bs))).map Ref.btOf
theorem tksB_len (bs : List UInt8) : (tksB bs).length ≤ bs.length := by
  unfold tksB
  rw [List.length_map]
  exact Nat.le_trans (toks_le _ _) (prep_len5 bs)
/-- The document's own Tokens behind its Prepare. -/
theorem toks_of (v : Value) (bs : List UInt8) (w : World) (hl : bs.length ≤ 1000000) (hr : w.ownsRow 0 3 1 v (prep (ipts bs)).length ((prep (ipts bs)).map (Value.int .i64))) :
    Calls Try.prog 12 #[v] w fun e w' => ∃ v', e = .returned v' ∧ w'.ownsRow w.heap.size 38 5 v' (tksB bs).length (btsCells (tksB bs)) ∧ Below w.heap.size w w' := by
  have h2 := Ref.tokens_any v (prep (ipts bs)) w (IntsAt.of_owns hr rfl) (by have := prep_len5 bs; omega)
  rw [prep_fixed5] at h2
  unfold tksB
  rw [List.length_map]
  exact h2

set_option maxHeartbeats 1000000 in
theorem of_any (v : Value) (bs : List UInt8) (w : World) (hB : BytesAt w.heap.size w v bs) (hl : bs.length ≤ 100000) :
    Calls Try.prog 11 #[v] w fun e w' => ∃ v', e = .returned v' ∧ w'.ownsRow w.heap.size 38 5 v' (tksB bs).length (btsCells (tksB bs)) ∧ Below w.heap.size w w' := by
  have h1 := refPrepare_any v bs w hB (by omega)
  obtain ⟨p, cap, rfl, _⟩ := hB.len
  go_enter Try.func11, Try.ntmps11
  go_wp2_with fail
  refine h1.mono ?_
  clear h1
  rintro e w1 ⟨v1, rfl, hr1, b1⟩
  have h2 := toks_of v1 bs w1 (by omega) (owns_base hr1 (Nat.zero_le _))
  go_wp2_with fail
  refine h2.mono ?_
  clear h2
  rintro e w2 ⟨v2, rfl, hr2, b2⟩
  go_wp2
  go_ret
  exact ⟨v2, rfl, owns_base hr2 b1.size, b1.trans (b2.mono b1.size)⟩

/-- Bytes in a new block. -/
theorem bytes_new (w : World) (l : List UInt8) (t : TypeId) (fz : Nat × Nat) (hl : l.length ≤ 1000000) : BytesAt (w.heap.size + 1) (w.alloc (.cells (ubytes l).toArray t fz)) (.slice (some ⟨w.heap.size, 0, none⟩) l.length l.length) l :=
  .inr ⟨w.heap.size, 0, l.length, rfl, Nat.le_refl _, by unfold maxLen; omega, by omega, fun j u hj => by
    rw [cell_of_block (World.alloc_heap_new w _) _, Nat.zero_add]
    unfold ubytes
    simp [hj]⟩
theorem alive_kinds : kds (tksB [97, 32, 123, 32, 98, 32, 125]) = [1, 9, 14, 9, 1, 9, 15] := by decide +kernel
theorem alive_rules : (rules (tksB [97, 32, 123, 32, 98, 32, 125])).map (fun r => (r.1.length, r.2.length)) = [(2, 3)] := by decide +kernel

set_option maxRecDepth 100000 in
set_option maxHeartbeats 2000000 in
theorem alive5_any (w : World) : Calls Try.prog 5 #[] w fun e w' => e = .returned (.bool true) ∧ Below w.heap.size w w' := by
  have hcv := Lib.run_convert_bytes_const (P := Try.prog) w 29 5 #[.int .u8 97, .int .u8 32, .int .u8 123, .int .u8 32, .int .u8 98, .int .u8 32, .int .u8 125] 7 7 Try.underlying29 Try.underlying5
  have hb : Below w.heap.size w (w.alloc (.cells #[.int .u8 97, .int .u8 32, .int .u8 123, .int .u8 32, .int .u8 98, .int .u8 32, .int .u8 125] 5 (7, 7 + 1))) := (Below.refl _ w).alloc (Nat.le_refl _) _
  have hB : BytesAt (w.alloc (.cells #[.int .u8 97, .int .u8 32, .int .u8 123, .int .u8 32, .int .u8 98, .int .u8 32, .int .u8 125] 5 (7, 7 + 1))).heap.size (w.alloc (.cells #[.int .u8 97, .int .u8 32, .int .u8 123, .int .u8 32, .int .u8 98, .int .u8 32, .int .u8 125] 5 (7, 7 + 1))) (.slice (some ⟨w.heap.size, 0, none⟩) 7 7) [97, 32, 123, 32, 98, 32, 125] := by
    have := bytes_new w [97, 32, 123, 32, 98, 32, 125] 5 (7, 7 + 1) (by decide)
    rwa [← World.size_alloc w] at this
  have h1 := refPrepare_any _ _ _ hB (by simp)
  go_enter Try.func5, Try.ntmps5
  go_wp2_with fail
  generalize w.alloc (.cells #[.int .u8 97, .int .u8 32, .int .u8 123, .int .u8 32, .int .u8 98, .int .u8 32, .int .u8 125] 5 (7, 7 + 1)) = w0 at *
  refine h1.mono ?_
  clear h1 hB hcv
  rintro e w1 ⟨v1, rfl, hr1, b1⟩
  have b01 := hb.trans (b1.mono hb.size)
  have h2 := toks_of v1 [97, 32, 123, 32, 98, 32, 125] w1 (by simp) (owns_base hr1 (Nat.zero_le _))
  go_wp2_with fail
  refine h2.mono ?_
  clear h2 hr1
  rintro e w2 ⟨v2, rfl, hr2, b2⟩
  have b02 := b01.trans (b2.mono b01.size)
  have h3 := parse_any v2 (tksB [97, 32, 123, 32, 98, 32, 125]) w2 (BtsAt.of_owns hr2 rfl) (by have := tksB_len [97, 32, 123, 32, 98, 32, 125]; simp at this; omega)
  have hal := alive_rules
  generalize rules (tksB [97, 32, 123, 32, 98, 32, 125]) = rs at *
  go_wp2_with fail
  refine h3.mono ?_
  clear h3 hr2
  rintro e w3 ⟨v3, rfl, ⟨vs, hR⟩, b3⟩
  have hbb := b02.trans (b3.mono b02.size)
  obtain ⟨r, rfl⟩ : ∃ r, rs = [r] := List.length_eq_one_iff.1 (by have := congrArg List.length hal; simpa using this)
  simp only [List.map_cons, List.map_nil, List.cons.injEq, Prod.mk.injEq, and_true] at hal
  obtain ⟨hp, hq⟩ := hal
  have hvl := hR.len
  obtain ⟨⟨x, y⟩, rfl⟩ : ∃ q, vs = [q] := List.length_eq_one_iff.1 (by simpa using hvl)
  clear hvl
  obtain ⟨e1, e2⟩ := hR.each 0 (x, y) r rfl rfl
  rw [hp] at e1
  rw [hq] at e2
  obtain ⟨px, cx, rfl⟩ := Stk_form e1
  obtain ⟨py, cy, rfl⟩ := Stk_form e2
  have hrow := hR.row
  obtain ⟨g, cg, rfl⟩ := ownsRow_succ (k := 0) hrow
  have c0 := hrow.cellAt 0 (by simp)
  have c1 := hrow.cellAt 1 (by simp)
  simp only [List.flatMap_cons, List.flatMap_nil, List.append_nil, List.getElem?_cons_zero, List.getElem?_cons_succ] at c0 c1
  clear hR hrow e1 e2 hb b1 b2 b3 b01 b02
  go_wp2
  go_ret
  exact ⟨rfl, hbb⟩

/-! ### Big -/
set_option maxRecDepth 100000 in
set_option maxHeartbeats 1000000 in
theorem big_any (v : Value) (ts : List Bt) (w : World) (hv : BtsAt w.heap.size w v ts) :
    Calls Try.prog 6 #[v] w fun e w' => (e = .returned (.bool true) ∧ w' = w) ∨ (e = .returned (.bool false) ∧ ts.length ≤ 500 ∧ w' = w) := by
  have hsh := hv.short
  obtain ⟨p, cap, rfl⟩ := hv.len
  go_enter Try.func6, Try.ntmps6
  go_wp2
  go_loopw [3] (fun y wr => ∃ k : Nat, y = .int .i64 k ∧ k ≤ ts.length ∧ wr = w) (fun y _ => ts.length - (intOf y).toNat)
  case atStart => exact ⟨0, rfl, Nat.zero_le _, rfl⟩
  case round =>
    obtain ⟨k, rfl, hk, rfl⟩ := hrel
    by_cases hlt : k < ts.length
    · have hki : (k : Int) < (ts.length : Int) := by omega
      obtain ⟨bk, off, rfl, hbk, _, _, hc⟩ := hv.get (List.getElem?_eq_getElem hlt)
      have c1 := hc.2.1
      generalize ts[k].text = s at *
      clear hc hv
      by_cases hs : 300 < s.size
      · have hsi : (300 : Int) < (s.size : Int) := by omega
        go_wp2
        go_ret
        exact .inl ⟨rfl, rfl⟩
      · have hsi : ¬ (300 : Int) < (s.size : Int) := by omega
        go_wp2
        exact ⟨⟨k + 1, by go_num, by omega, by first | rfl | trivial⟩, by simp [intOf]; omega⟩
    · have hki : ¬ (k : Int) < (ts.length : Int) := by omega
      by_cases hb : 500 < ts.length
      · have hbi : (500 : Int) < (ts.length : Int) := by omega
        clear hv
        go_wp2
        go_ret
        exact .inl ⟨rfl, rfl⟩
      · have hbi : ¬ (500 : Int) < (ts.length : Int) := by omega
        clear hv
        go_wp2
        go_ret
        exact .inr ⟨rfl, by omega, rfl⟩

end Go.Proofs.Yteihbpmmjlkkgaa
