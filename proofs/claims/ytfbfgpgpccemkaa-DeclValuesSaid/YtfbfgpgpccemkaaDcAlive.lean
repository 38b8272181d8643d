/- The tokens of bytes by the document's own reader; the laws' own 'alive' and 'Big'. -/
import Derived.Test.YtfbfgpgpccemkaaRtTok
import Derived.Test.YtfbfgpgpccemkaaRefPts
import Derived.Test.YtfbfgpgpccemkaaBack
import Derived.Test.YtfbfgpgpccemkaaDcSame
import Derived.Test.YtfbfgpgpccemkaaBsH
import Derived.Lib.SlBytesConst
import Derived.Lib.ConvBytes
namespace Go.Proofs.Ytfbfgpgpccemkaa.Dc
open Go Go.RowKit Go.Shelf

theorem prep_len5 (bs : List UInt8) : (prep (ipts bs)).length ≤ bs.length := Nat.le_trans (prep_length_le _) (ipts_length_le _)
theorem prep_fixed5 (bs : List UInt8) : (prep (ipts bs)).map fixC = prep (ipts bs) := map_fixC_same _ (fun p hp => (prepared_clean bs p hp).2.2.2)

/-- The tokens of bytes. -/
def tksB (bs : List UInt8) : List Bt := (toks Ref.nv (prep (ipts bs))).map Ref.btOf
theorem tksB_len (bs : List UInt8) : (tksB bs).length ≤ bs.length := by
  unfold tksB
  rw [List.length_map]
  exact Nat.le_trans (toks_le _ _) (prep_len5 bs)
/-- The document's own Tokens behind its Prepare. -/
theorem toks_of (v : Value) (bs : List UInt8) (w : World) (hl : bs.length ≤ 1000000) (hr : w.ownsRow 0 3 1 v (prep (ipts bs)).length ((prep (ipts bs)).map (Value.int .i64))) :
    Calls Try.prog 23 #[v] w fun e w' => ∃ v', e = .returned v' ∧ w'.ownsRow w.heap.size 36 5 v' (tksB bs).length (btsCells (tksB bs)) ∧ Below w.heap.size w w' := by
  have h2 := Ref.tokens_any v (prep (ipts bs)) w (IntsAt.of_owns hr rfl) (by have := prep_len5 bs; omega)
  rw [prep_fixed5] at h2
  unfold tksB
  rw [List.length_map]
  exact h2

theorem tksB_text (bs : List UInt8) (hl : bs.length ≤ 1000000) : ∀ t ∈ tksB bs, t.text.size ≤ maxLen := fun t ht => by
  obtain ⟨x, hx, rfl⟩ := List.mem_map.1 ht
  have h1 := toks_text Ref.nv _ (prep (ipts bs)) (Nat.le_refl _) x hx
  have h2 := encs_len x.text
  have h3 := prep_len5 bs
  show ((encs x.text).toArray).size ≤ _
  rw [List.size_toArray]
  unfold maxLen
  omega
set_option maxHeartbeats 1000000 in
theorem of_any (v : Value) (bs : List UInt8) (w : World) (hB : BytesAt w.heap.size w v bs) (hl : bs.length ≤ 100000) :
    Calls Try.prog 13 #[v] w fun e w' => ∃ v', e = .returned v' ∧ w'.ownsRow w.heap.size 36 5 v' (tksB bs).length (btsCells (tksB bs)) ∧ Below w.heap.size w w' := by
  have h1 := refPrepare_any v bs w hB (by omega)
  obtain ⟨p, cap, rfl, _⟩ := hB.len
  go_enter Try.func13, Try.ntmps13
  go_wp2_with fail
  refine h1.mono ?_
  clear h1
  rintro e w1 ⟨v1, rfl, hr1, b1⟩
  have h2 := toks_of v1 bs w1 (by omega) (owns_base hr1 (Nat.zero_le _))
  go_wp2_with fail
  refine h2.mono ?_
  clear h2
  rintro e w2 ⟨v2, rfl, hr2, b2⟩
  go_wp2
  go_ret
  exact ⟨v2, rfl, owns_base hr2 b1.size, b1.trans (b2.mono b1.size)⟩

/-- Bytes in a new block. -/
theorem bytes_new (w : World) (l : List UInt8) (t : TypeId) (fz : Nat × Nat) (hl : l.length ≤ 1000000) : BytesAt (w.heap.size + 1) (w.alloc (.cells (ubytes l).toArray t fz)) (.slice (some ⟨w.heap.size, 0, none⟩) l.length l.length) l :=
  .inr ⟨w.heap.size, 0, l.length, rfl, Nat.le_refl _, by unfold maxLen; omega, by omega, fun j u hj => by
    rw [cell_of_block (World.alloc_heap_new w _) _, Nat.zero_add]
    unfold ubytes
    simp [hj]⟩
def aliveB : List UInt8 := [67, 111, 108, 111, 114, 32, 58, 32, 114, 101, 100, 32, 33, 105, 109, 112, 111, 114, 116, 97, 110, 116]
theorem alive_decls : (decls (tksB aliveB)).map (fun d => (d.name, d.value.length, d.imp)) = [(⟨#[99, 111, 108, 111, 114]⟩, 1, true)] := by decide +kernel

set_option maxRecDepth 100000 in
set_option maxHeartbeats 2000000 in
theorem alive6_any (w : World) : Calls Try.prog 8 #[] w fun e w' => e = .returned (.bool true) ∧ Below w.heap.size w w' := by
  have hcv := Lib.run_convert_bytes_const (P := Try.prog) w 28 5 (ubytes aliveB).toArray 22 22 Try.underlying28 Try.underlying5
  have hb : Below w.heap.size w (w.alloc (.cells (ubytes aliveB).toArray 5 (22, 22 + 1))) := (Below.refl _ w).alloc (Nat.le_refl _) _
  have hB : BytesAt (w.alloc (.cells (ubytes aliveB).toArray 5 (22, 22 + 1))).heap.size (w.alloc (.cells (ubytes aliveB).toArray 5 (22, 22 + 1))) (.slice (some ⟨w.heap.size, 0, none⟩) 22 22) aliveB := by
    have := bytes_new w aliveB 5 (22, 22 + 1) (by decide)
    rwa [← World.size_alloc w] at this
  have h1 := of_any _ aliveB _ hB (by decide)
  simp only [show (ubytes aliveB).toArray = #[.int .u8 67, .int .u8 111, .int .u8 108, .int .u8 111, .int .u8 114, .int .u8 32, .int .u8 58, .int .u8 32, .int .u8 114, .int .u8 101, .int .u8 100, .int .u8 32, .int .u8 33, .int .u8 105, .int .u8 109, .int .u8 112, .int .u8 111, .int .u8 114, .int .u8 116, .int .u8 97, .int .u8 110, .int .u8 116] from rfl] at *
  have hal := alive_decls
  have htx := tksB_text aliveB (by decide)
  have htl := tksB_len aliveB
  generalize tksB aliveB = ts at *
  rw [show aliveB.length = 22 from rfl] at htl
  go_enter Try.func8, Try.ntmps8
  go_wp2_with fail
  generalize w.alloc (.cells #[.int .u8 67, .int .u8 111, .int .u8 108, .int .u8 111, .int .u8 114, .int .u8 32, .int .u8 58, .int .u8 32, .int .u8 114, .int .u8 101, .int .u8 100, .int .u8 32, .int .u8 33, .int .u8 105, .int .u8 109, .int .u8 112, .int .u8 111, .int .u8 114, .int .u8 116, .int .u8 97, .int .u8 110, .int .u8 116] 5 (22, 22 + 1)) = w0 at *
  refine h1.mono ?_
  clear h1 hB hcv
  rintro e w2 ⟨v2, rfl, hr2, b2⟩
  have b02 := below_next hb b2
  have h3 := parse_any v2 ts w2 (BtsAt.of_owns hr2 rfl) htx (by omega)
  go_wp2_with fail
  refine h3.mono ?_
  clear h3 hr2
  rintro e w3 ⟨v3, rfl, ⟨qs, hq, hR⟩, b3⟩
  have hbb := below_next b02 b3
  rw [← hq, List.map_map] at hal
  obtain ⟨⟨d, x⟩, rfl⟩ : ∃ r, qs = [r] := List.length_eq_one_iff.1 (by have := congrArg List.length hal; simpa using this)
  simp only [List.map_cons, List.map_nil, List.cons.injEq, Prod.mk.injEq, and_true, Function.comp] at hal
  obtain ⟨hp, hq2, hq3⟩ := hal
  obtain ⟨p3, cap3, rfl⟩ := hR.form
  obtain ⟨bk, off, q1, c1, rfl, a0, a1, a2, _⟩ := hR.get (k := 0) (d := d) rfl
  rw [hp] at a0
  rw [hq2] at a1
  rw [hq3] at a2
  simp only [Nat.zero_mul, Nat.add_zero] at a0 a1 a2
  clear hR hb b2 b3 b02 htx hq
  go_wp2
  go_ret
  exact ⟨rfl, hbb⟩

/-! ### Big -/
set_option maxRecDepth 100000 in
set_option maxHeartbeats 1000000 in
theorem big_any (v : Value) (ts : List Bt) (w : World) (hv : BtsAt w.heap.size w v ts) :
    Calls Try.prog 9 #[v] w fun e w' => (e = .returned (.bool true) ∧ w' = w) ∨ (e = .returned (.bool false) ∧ (ts.length ≤ 500 ∧ ∀ t ∈ ts, t.text.size ≤ 300) ∧ w' = w) := by
  have hsh := hv.short
  obtain ⟨p, cap, rfl⟩ := hv.len
  go_enter Try.func9, Try.ntmps9
  go_wp2
  go_loopw [3] (fun y wr => ∃ k : Nat, y = .int .i64 k ∧ k ≤ ts.length ∧ Hid (∀ j t, j < k → ts[j]? = some t → t.text.size ≤ 300) ∧ wr = w) (fun y _ => ts.length - (intOf y).toNat)
  case atStart => exact ⟨0, rfl, Nat.zero_le _, fun j t hj => absurd hj (Nat.not_lt_zero j), rfl⟩
  case round =>
    obtain ⟨k, rfl, hk, HT, rfl⟩ := hrel
    by_cases hlt : k < ts.length
    · have hki : (k : Int) < (ts.length : Int) := by omega
      obtain ⟨bk, off, rfl, hbk, _, _, hc⟩ := hv.get (List.getElem?_eq_getElem hlt)
      have c1 := hc.2.1
      have HT2 : ¬ 300 < ts[k].text.size → Hid (∀ j t, j < k + 1 → ts[j]? = some t → t.text.size ≤ 300) := fun hs j t hj ht => by
        by_cases e : j = k
        · subst e
          rw [List.getElem?_eq_getElem hlt] at ht
          cases ht
          omega
        · exact HT j t (by omega) ht
      generalize ts[k].text = s at *
      clear hc hv
      by_cases hs : 300 < s.size
      · have hsi : (300 : Int) < (s.size : Int) := by omega
        clear HT2
        go_wp2
        go_ret
        exact .inl ⟨rfl, rfl⟩
      · have hsi : ¬ (300 : Int) < (s.size : Int) := by omega
        have HT3 := HT2 hs
        clear HT2
        go_wp2
        exact ⟨⟨k + 1, by go_num, by omega, HT3, by first | rfl | trivial⟩, by simp [intOf]; omega⟩
    · have hki : ¬ (k : Int) < (ts.length : Int) := by omega
      have hall : ∀ t ∈ ts, t.text.size ≤ 300 := fun t ht => by
        obtain ⟨j, hj, e⟩ := List.getElem_of_mem ht
        exact HT j t (by omega) (by rw [List.getElem?_eq_getElem hj, e])
      by_cases hb : 500 < ts.length
      · have hbi : (500 : Int) < (ts.length : Int) := by omega
        clear hv
        go_wp2
        go_ret
        exact .inl ⟨rfl, rfl⟩
      · have hbi : ¬ (500 : Int) < (ts.length : Int) := by omega
        clear hv
        go_wp2
        go_ret
        exact .inr ⟨rfl, ⟨by omega, hall⟩, rfl⟩

end Go.Proofs.Ytfbfgpgpccemkaa.Dc
