/- For all slices of integers: the law tapestrierlaw4.TokWhite returns true and leaves its argument as it was; conditions: the tables hold what their texts lay (the card ties them to the program's text). -/
import Derived.Test.YtaecamnlimlpkabDoorTkUse
import Derived.ArgAppend
namespace Go.Proofs.YtaecamnlimlpkabDoor
open Go Go.ChangeShapes Go.WideShapes Go.ChangeAt Go.RowKit

theorem i64_and1023 (n : Int) : bits .and .i64 n 1023 = n % 1024 := by
  have hm : (BitVec.ofInt 64 (1023 : Int)).toNat = 2 ^ 10 - 1 := by decide
  have key : (BitVec.ofInt 64 n &&& BitVec.ofInt 64 (1023 : Int)).toNat = (n % ((2 ^ 64 : Nat) : Int)).toNat % 2 ^ 10 := by
    rw [BitVec.toNat_and, BitVec.toNat_ofInt, hm, Nat.and_two_pow_sub_one_eq_mod]
  show IntKind.i64.wrap ((BitVec.ofInt 64 n &&& BitVec.ofInt 64 (1023 : Int)).toNat : Nat) = _
  rw [key, IntKind.wrap_i64]
  simp only [Nat.reducePow]
  omega

def white5 (u : UInt8) : Prop := u = 32 ∨ u = 9 ∨ u = 10 ∨ u = 13 ∨ u = 12
theorem white5_plain {u : UInt8} (h : white5 u) : u.toNat < 128 := by rcases h with rfl | rfl | rfl | rfl | rfl <;> decide
theorem prep_white : ∀ (bs : List UInt8) (c : Bool), (∀ u ∈ bs, white5 u) → ∃ l, l.all isWhite = true ∧ prepFrom c (ints bs ++ [98]) = l ++ [98] ∧ (c = false → bs ≠ [] → l ≠ [])
  | [], c, _ => ⟨[], rfl, by simp [ints, prepFrom, repl], fun _ h => absurd rfl h⟩
  | u :: bs, c, h => by
    obtain ⟨l, hl, e, _⟩ := prep_white bs ((u.toNat : Int) == 13) fun x hx => h x (List.mem_cons_of_mem _ hx)
    have e0 : ints (u :: bs) ++ [98] = (u.toNat : Int) :: (ints bs ++ [98]) := rfl
    rw [e0, prepFrom, e]
    have hw : isWhite (repl (u.toNat : Int)) = true := by
      rcases h u (List.mem_cons_self ..) with rfl | rfl | rfl | rfl | rfl <;> decide
    by_cases hc : c = true ∧ (u.toNat : Int) = 10
    · exact ⟨l, hl, by rw [if_pos hc], fun h0 => by rw [h0] at hc; cases hc.1⟩
    · exact ⟨repl (u.toNat : Int) :: l, by rw [List.all_cons, hw, hl]; rfl, by rw [if_neg hc]; rfl, fun _ _ => by simp⟩
theorem tks_white {bs : List UInt8} (hne : bs ≠ []) (h : ∀ u ∈ bs, white5 u) : tksOf (97 :: bs ++ [98]) = [⟨1, [97], 0, false, 0⟩, ⟨9, [], 0, false, 0⟩, ⟨1, [98], 0, false, 0⟩] := by
  unfold tksOf
  rw [ipts_plain (97 :: bs ++ [98]) (fun u hu => by
    rw [List.mem_append, List.mem_cons] at hu
    rcases hu with (rfl | hu) | hu
    · decide
    · exact white5_plain (h u hu)
    · simp at hu; subst hu; decide)]
  obtain ⟨l, hl, e, hn⟩ := prep_white bs false h
  have e1 : prep (ints (97 :: bs ++ [98])) = 97 :: (l ++ [98]) := by
    have : ints (97 :: bs ++ [98]) = 97 :: (ints bs ++ [98]) := by simp [ints]
    rw [this, prep_cons (by decide) (by decide) (by decide)]
    exact congrArg (97 :: ·) e
  rw [e1]
  cases l with
  | nil => exact absurd rfl (hn rfl hne)
  | cons x l => exact toks_white nvOf hl

theorem txt_b : txtOf [98] = ⟨#[98]⟩ := by decide +kernel

set_option maxRecDepth 100000 in
set_option maxHeartbeats 8000000 in
theorem tokWhite_walk (w : World) (hT : LTabs w.heap.size w) (v : Value) (l : List Int) (hI : IntsAt w.heap.size w v l) :
    Calls Tryd.prog 7 #[v] w fun e w' => e = .returned (.bool true) ∧ Below w.heap.size w w' := by
  obtain ⟨i0, hi, hz0, hz1, hz2⟩ := info_parts infoByte
  obtain ⟨p, cap, rfl⟩ := hI.len
  have h0 := alive_any w hT
  by_cases hlen : 1 ≤ l.length ∧ l.length ≤ 100
  · have hl1 : (1 : Int) ≤ (l.length : Int) := by omega
    have hl2 : (l.length : Int) ≤ 100 := by omega
    go_enter Tryd.func7, Tryd.ntmps7
    go_wp2_with fail
    refine h0.mono ?_
    clear h0
    rintro e w1 ⟨rfl, b1⟩
    have T1 := hT.next b1
    have I1 := hI.below b1
    have hb1s := b1.size
    go_wp2
    go_loopw [4, 5] (fun o i wr => ∃ (k : Nat) (bs : List UInt8), i = .int .i64 k ∧ k ≤ l.length ∧ bs.length = k ∧ (∀ u ∈ bs, white5 u) ∧ wr.ownsRow w1.heap.size 5 1 o bs.length (ubytes bs) ∧ Below w1.heap.size w1 wr) (fun _ i _ => l.length - (intOf i).toNat)
    case atStart => exact ⟨0, [], rfl, Nat.zero_le _, rfl, by simp, World.ownsRow_nil _ _ _ _, Below.refl _ _⟩
    case round =>
      obtain ⟨k, bs, rfl, hk, hbk, hw5, hown, hb⟩ := hrel
      by_cases hlt : k < l.length
      · obtain ⟨bk, off, hp, hcell⟩ : ∃ bk off, p = some ⟨bk, off, none⟩ ∧ ∀ j u, l[j]? = some u → wr.cell? ⟨bk, off + j, none⟩ = some (.int .i64 u) := by
          rcases I1.below (hb.mono hb1s) with ⟨rfl, _⟩ | ⟨bk, off, c, e, _, _, _, h⟩
          · simp at hlt
          · cases e; exact ⟨bk, off, rfl, h⟩
        subst hp
        have c0 := hcell k _ (List.getElem?_eq_getElem hlt)
        clear hcell I1 hI
        generalize l[k] = z at c0
        have hm := i64_and1023 z
        have hki : (k : Int) < (l.length : Int) := by omega
        have hbs := hb.size
        have hnx : ∀ u : UInt8, white5 u → ∀ x ∈ bs ++ [u], white5 x := fun u hu x hx => by
          rw [List.mem_append] at hx
          rcases hx with hx | hx
          · exact hw5 x hx
          · simp at hx; subst hx; exact hu
        have fin : ∀ (u : UInt8) (v' : Value) (w3 : World), white5 u → w3.ownsRow w1.heap.size 5 1 v' (bs.length + 1) (ubytes bs ++ [.int .u8 u.toNat]) → (wr.alloc (.cells #[.int .u8 u.toNat] 5)).grownBy w3 _ → ∃ bs' : List UInt8, bs'.length = k + 1 ∧ (∀ x ∈ bs', white5 x) ∧ w3.ownsRow w1.heap.size 5 1 v' bs'.length (ubytes bs') ∧ Below w1.heap.size w1 w3 := fun u v' w3 hu h1 h2 =>
          ⟨bs ++ [u], by simp [hbk], hnx u hu, by rw [List.length_append, ubytes_append]; exact h1, below_grown hb hown h2⟩
        obtain ⟨k5, hk5, hlt5⟩ : ∃ k5 : Nat, (z % 1024).tmod 5 = (k5 : Int) ∧ k5 < 5 := ⟨((z % 1024) % 5).toNat, by rw [Int.tmod_eq_emod_of_nonneg (by omega)]; omega, by omega⟩
        obtain rfl | rfl | rfl | rfl | rfl : k5 = 0 ∨ k5 = 1 ∨ k5 = 2 ∨ k5 = 3 ∨ k5 = 4 := by omega
        · have g5 : (⟨#[32, 9, 10, 13, 12]⟩ : ByteArray)[0] = 32 := rfl
          go_wp2_with (at_builtin; refine wpList_append_own _ rfl _ _ 24 rfl w1.heap.size 5 i0 (.int .u8 0) 1 1 Tryd.underlying24 hi hz0 hz1 hz2 rfl (by decide) _ _ _ rfl (hown.alloc _) ⟨wr.heap.size, 0, none⟩ 1 1 [.int .u8 32] rfl rfl (cells_new _ [.int .u8 32] _) (fun x hx => by simp at hx; subst hx; rfl) (by unfold maxLen; omega) (by omega) (by simp; omega) ?_; intro v' w3 hown3 hgrow3 hnil3)
          obtain ⟨bs', e1, e2, e3, e4⟩ := fin 32 v' w3 (by unfold white5; simp) hown3 hgrow3
          exact ⟨⟨k + 1, bs', by go_num, by omega, e1, e2, e3, e4⟩, by simp [intOf]; omega⟩
        · have g5 : (⟨#[32, 9, 10, 13, 12]⟩ : ByteArray)[1] = 9 := rfl
          go_wp2_with (at_builtin; refine wpList_append_own _ rfl _ _ 24 rfl w1.heap.size 5 i0 (.int .u8 0) 1 1 Tryd.underlying24 hi hz0 hz1 hz2 rfl (by decide) _ _ _ rfl (hown.alloc _) ⟨wr.heap.size, 0, none⟩ 1 1 [.int .u8 9] rfl rfl (cells_new _ [.int .u8 9] _) (fun x hx => by simp at hx; subst hx; rfl) (by unfold maxLen; omega) (by omega) (by simp; omega) ?_; intro v' w3 hown3 hgrow3 hnil3)
          obtain ⟨bs', e1, e2, e3, e4⟩ := fin 9 v' w3 (by unfold white5; simp) hown3 hgrow3
          exact ⟨⟨k + 1, bs', by go_num, by omega, e1, e2, e3, e4⟩, by simp [intOf]; omega⟩
        · have g5 : (⟨#[32, 9, 10, 13, 12]⟩ : ByteArray)[2] = 10 := rfl
          go_wp2_with (at_builtin; refine wpList_append_own _ rfl _ _ 24 rfl w1.heap.size 5 i0 (.int .u8 0) 1 1 Tryd.underlying24 hi hz0 hz1 hz2 rfl (by decide) _ _ _ rfl (hown.alloc _) ⟨wr.heap.size, 0, none⟩ 1 1 [.int .u8 10] rfl rfl (cells_new _ [.int .u8 10] _) (fun x hx => by simp at hx; subst hx; rfl) (by unfold maxLen; omega) (by omega) (by simp; omega) ?_; intro v' w3 hown3 hgrow3 hnil3)
          obtain ⟨bs', e1, e2, e3, e4⟩ := fin 10 v' w3 (by unfold white5; simp) hown3 hgrow3
          exact ⟨⟨k + 1, bs', by go_num, by omega, e1, e2, e3, e4⟩, by simp [intOf]; omega⟩
        · have g5 : (⟨#[32, 9, 10, 13, 12]⟩ : ByteArray)[3] = 13 := rfl
          go_wp2_with (at_builtin; refine wpList_append_own _ rfl _ _ 24 rfl w1.heap.size 5 i0 (.int .u8 0) 1 1 Tryd.underlying24 hi hz0 hz1 hz2 rfl (by decide) _ _ _ rfl (hown.alloc _) ⟨wr.heap.size, 0, none⟩ 1 1 [.int .u8 13] rfl rfl (cells_new _ [.int .u8 13] _) (fun x hx => by simp at hx; subst hx; rfl) (by unfold maxLen; omega) (by omega) (by simp; omega) ?_; intro v' w3 hown3 hgrow3 hnil3)
          obtain ⟨bs', e1, e2, e3, e4⟩ := fin 13 v' w3 (by unfold white5; simp) hown3 hgrow3
          exact ⟨⟨k + 1, bs', by go_num, by omega, e1, e2, e3, e4⟩, by simp [intOf]; omega⟩
        · have g5 : (⟨#[32, 9, 10, 13, 12]⟩ : ByteArray)[4] = 12 := rfl
          go_wp2_with (at_builtin; refine wpList_append_own _ rfl _ _ 24 rfl w1.heap.size 5 i0 (.int .u8 0) 1 1 Tryd.underlying24 hi hz0 hz1 hz2 rfl (by decide) _ _ _ rfl (hown.alloc _) ⟨wr.heap.size, 0, none⟩ 1 1 [.int .u8 12] rfl rfl (cells_new _ [.int .u8 12] _) (fun x hx => by simp at hx; subst hx; rfl) (by unfold maxLen; omega) (by omega) (by simp; omega) ?_; intro v' w3 hown3 hgrow3 hnil3)
          obtain ⟨bs', e1, e2, e3, e4⟩ := fin 12 v' w3 (by unfold white5; simp) hown3 hgrow3
          exact ⟨⟨k + 1, bs', by go_num, by omega, e1, e2, e3, e4⟩, by simp [intOf]; omega⟩
      · have hki : ¬ (k : Int) < (l.length : Int) := by omega
        have hne : bs ≠ [] := fun e => by rw [e] at hbk; simp at hbk; omega
        have htk := tks_white hne hw5
        have hbl : bs.length ≤ 100 := by omega
        have hbs := hb.size
        have bb := b1.trans (hb.mono hb1s)
        have Tr := T1.next hb
        clear hI I1 hw5 hlen hbk
        rcases owns_cells hown with ⟨_, h2, _⟩ | ⟨g, cp, rfl, hg1, hg2, hg3, hg4, hg5⟩
        · exact absurd (List.length_eq_zero_iff.1 h2) hne
        · have hcv := Lib.run_convert_bytes_const (P := Tryd.prog) wr 24 5 #[.int .u8 97] 1 1 Tryd.underlying24 Tryd.underlying5
          have hcv' : (convert 24 24 (.slice (some ⟨wr.heap.size, 0, none⟩) 1 1)).run Tryd.prog (wr.alloc (.cells #[.int .u8 97] 5)) = .ok (.slice (some ⟨wr.heap.size, 0, none⟩) 1 1) (wr.alloc (.cells #[.int .u8 97] 5 (1, 2))) := hcv
          have hba : Below wr.heap.size wr (wr.alloc (.cells #[.int .u8 97] 5 (1, 2))) := (Below.refl _ wr).alloc (Nat.le_refl _) _
          have hca : (wr.alloc (.cells #[.int .u8 97] 5 (1, 2))).cell? ⟨wr.heap.size, 0, none⟩ = some (.int .u8 97) := cell_of_block (World.alloc_heap_new wr _) 0
          have hsa : (wr.alloc (.cells #[.int .u8 97] 5 (1, 2))).heap.size = wr.heap.size + 1 := World.size_alloc _ _
          have hcb : ∀ j u, (ubytes bs)[j]? = some u → (wr.alloc (.cells #[.int .u8 97] 5 (1, 2))).cell? ((⟨g, 0, none⟩ : Addr).add j) = some u := fun j u hj => by
            rw [addr_add]
            exact (hba.cell (p := ⟨g, 0 + j, none⟩) hg4).trans (hg5 j u hj)
          clear hcv hg5 hown
          go_wp2_with (first
            | (at_builtin; refine wpList_append_grows _ rfl _ _ 24 rfl 5 i0 (.int .u8 0) 1 1 Tryd.underlying24 hi hz0 hz1 hz2 rfl (by decide) (some ⟨wr.heap.size, 0, none⟩) 1 1 [.int .u8 97] rfl (fun h => by cases h) rfl (fun b hb j u hj => by cases hb; match j, hj with | 0, hj => cases hj; exact hca | j + 1, hj => cases hj) ⟨g, 0, none⟩ bs.length cp (ubytes bs) rfl (by rw [ubytes_length]; omega) hcb (fun u hu => by obtain ⟨c, _, rfl⟩ := List.mem_map.1 hu; rfl) (by have := List.length_pos_iff.2 hne; omega) (by unfold maxLen; omega) (by omega) ?_; intro v3 w3 hown3 hgrow3; have hs3 := hgrow3.size)
            | (at_builtin; refine wpList_append_own _ rfl _ _ 24 rfl (wr.heap.size + 1) 5 i0 (.int .u8 0) 1 1 Tryd.underlying24 hi hz0 hz1 hz2 rfl (by decide) _ _ _ rfl ((hsa ▸ hown3 : w3.ownsRow (wr.heap.size + 1) _ _ _ _ _).alloc _) ⟨w3.heap.size, 0, none⟩ 1 1 [.int .u8 98] rfl rfl (cells_new _ [.int .u8 98] _) (fun x hx => by simp at hx; subst hx; rfl) (by unfold maxLen; omega) (by omega) (by rw [hsa] at hs3; simp; omega) ?_; intro v4 w4 hown4 hgrow4 hnil4))
          have hown3' : w3.ownsRow (wr.heap.size + 1) _ _ _ _ _ := hsa ▸ hown3
          have hB4 : BytesAt w4.heap.size w4 v4 (97 :: bs ++ [98]) := BytesAt.of_owns (l := 97 :: bs ++ [98]) (m := 1 + bs.length + 1) (by
            have e : ubytes (97 :: bs ++ [98]) = [.int .u8 97] ++ ubytes bs ++ [.int .u8 98] := by simp [ubytes]
            rw [e]
            exact hown4) (by simp; omega)
          have b13 : Below wr.heap.size wr w3 := hba.trans ((below_of_still hgrow3 _ (Nat.le_refl _) (row := none) rfl).mono (by omega))
          have b14 : Below wr.heap.size wr w4 := (b13.alloc b13.size _).grown hgrow4 (by have := b13.size; simp; omega) (fun j e => by have := (hown3'.lt j e).1; omega)
          have h5 := ofB_any v4 (97 :: bs ++ [98]) w4 hB4 (Tr.next b14) (by simp; omega)
          rw [htk] at h5
          clear hcb hca hown3 hown3' hown4 hB4 hcv'
          refine h5.mono ?_
          clear h5
          rintro e w5 ⟨v5, rfl, hr5, b5⟩
          have b15 := bb.trans ((b14.trans (b5.mono b14.size)).mono bb.size)
          rcases TksAt.of_owns hr5 with ⟨h, _⟩ | ⟨g5, off5, cap5, rfl, _, hc5⟩
          · cases h
          · obtain ⟨a0, a1, a2, a3, a4⟩ := hc5 0 _ rfl
            obtain ⟨d0, d1, d2, d3, d4⟩ := hc5 1 _ rfl
            obtain ⟨e0, e1, e2, e3, e4⟩ := hc5 2 _ rfl
            rw [alive_txt1] at a1
            rw [txt_b] at e1
            rw [txtOf_nil] at d1
            simp only [Nat.zero_mul, Nat.add_zero] at a0 a1 a2 a3 a4
            simp only [Nat.reduceMul, Nat.add_assoc, Nat.reduceAdd] at d0 d1 d2 d3 d4 e0 e1 e2 e3 e4
            clear hc5 hr5
            go_wp2
            go_ret
            exact ⟨rfl, b15⟩
  · have h0' := h0
    by_cases h1 : (l.length : Int) < 1
    · go_enter Tryd.func7, Tryd.ntmps7
      go_wp2_with fail
      refine h0.mono ?_
      clear h0 h0'
      rintro e w1 ⟨rfl, b1⟩
      go_wp2
      go_ret
      exact ⟨rfl, b1⟩
    · have h2 : (100 : Int) < (l.length : Int) := by omega
      go_enter Tryd.func7, Tryd.ntmps7
      go_wp2_with fail
      refine h0.mono ?_
      clear h0 h0'
      rintro e w1 ⟨rfl, b1⟩
      go_wp2
      go_ret
      exact ⟨rfl, b1⟩

theorem tokWhite_met (os : Os) : laidMet Tryd.prog Rows.tokWhiteRow.laid ((laidIn (World.holding Tryd.prog os ⟨#[], #[], []⟩)).forCall (fun _ _ => 0) ⟨#[], #[.slice none 0 0], []⟩).memory :=
  laidMet_of_run' 8 (by kernel_rfl) (by kernel_rfl)
theorem tokWhite_reads (os : Os) {H : Type} (enc : TypeId × Value → H) : ∃ places, DataW.whole enc Tryd.prog ((laidIn (World.holding Tryd.prog os ⟨#[], #[], []⟩)).forCall (fun _ _ => 0) ⟨#[], #[.slice none 0 0], []⟩).memory Tryd.f7.params.toList Rows.tokWhiteSpec.vars false (#[.slice none 0 0] : Array Value).toList 8 = some ([.nil], [], places) :=
  ⟨[], by kernel_rfl⟩

set_option maxRecDepth 100000 in
theorem tokWhite_lifted (os : Os) (started : os.Started) (H : Type) (enc : TypeId × Value → H) (F : Stop.Interp) :
    ReturnsInHanded {} Tryd.checked os 7 .any ((OpenSpec.ofChange Rows.tokWhiteSpec).preRow enc Tryd.prog Tryd.f7 Rows.tokWhiteRow.domain false Rows.tokWhiteRow.laid) (((OpenSpec.ofChange Rows.tokWhiteSpec).at F).post enc Tryd.prog Tryd.f7 false true false false) := by
  obtain ⟨places, hx⟩ := tokWhite_reads os enc
  refine returnsInHanded_of_row (C := Tryd.checked) (s := OpenSpec.ofChange Rows.tokWhiteSpec) ownNone started (by kernel_rfl) Tryd.func7
    (witness_row_at (enc := enc) (C := Tryd.checked) false (laidIn (World.holding Tryd.prog os ⟨#[], #[], []⟩)) #[.slice none 0 0] rfl (by kernel_rfl) (by kernel_rfl) (by kernel_rfl)
      (OpenSpec.preRow_of_cond 8 hx (by kernel_rfl) (fun k hk => by cases hk) (by kernel_rfl) (tokWhite_met os))) ?_
  intro W base args ds gs before hval hW _ _ _ hL hS _
  have hW' := hW
  obtain ⟨p, q, hA0, hV, rfl, hfz, hnd⟩ := hW
  have hA : DataW.TrodAll enc Tryd.prog W 0 (fun _ => true) true Tryd.f7.params.toList args.toList ds p := hA0
  rw [Tryd.params7] at hA hval
  obtain ⟨v0, vs0, d0, ds0, p0, q0, hargs, rfl, rfl, h0, r0⟩ := trodAll_cons hA
  obtain ⟨rfl, rfl, rfl⟩ := trodAll_nil r0
  obtain rfl : args = #[v0] := by cases args; simp_all
  obtain ⟨rfl, rfl⟩ := trodVars_none hV
  obtain ⟨a0, len0, cap0, rfl⟩ := okWide_slice Tryd.underlying26 (hval 0 26 v0 rfl rfl)
  have k0 := h0
  have lt0 : ∀ x ∈ p0, x.block < W.heap.size := by obtain ⟨m, hm⟩ := k0; exact DataW.trod_lt m _ _ _ hm
  obtain ⟨z0, w0⟩ := intsAt_of_reads k0
  clear hA0
  refine (tokWhite_walk W (tabs_of_laid hL hS) _ z0 w0).mono fun e W' ⟨he, bel⟩ => ?_
  subst he
  exact ⟨_, rfl, _, _, _, [], _, [], hW', trodAll_mk1 (shut_bool Tryd.underlying4 _), (trodAll_cons_mk (Below.trod laidOut (by kernel_rfl) (of_decide_eq_true (by kernel_rfl)) k0 bel lt0) trodAll_mk0), rfl, bel.frame _, fun h => by cases h⟩

theorem tokWhite_said : Rows.TokWhiteSaid :=
  OpenClaim.holds_of_cond 7 Tryd.f7 rfl rfl rfl rfl rfl rfl rfl ⟨rfl, rfl, rfl, rfl, rfl⟩ rfl rfl rfl rfl rfl (by kernel_rfl) Tryd.func7 (by kernel_rfl)
    (of_decide_eq_true (by kernel_rfl)) (by unfold Func.isWrapper; first | (rw [if_pos (by decide +kernel)]; kernel_rfl) | (rw [if_neg (by decide +kernel)]; exact ⟨rfl, rfl⟩))
    (fun os started H enc _ F => by rw [OpenClaim.pre_eq_preRow]; exact tokWhite_lifted os started H enc F)

theorem tokWhite_plain (f : FuncId) (fn : Func) (hf : Tryd.pinned.checked.prog.funcNamed "tapestrier/tapestrierlaw4.TokWhite" = some f) (hfn : Tryd.pinned.checked.prog.funcs[f]? = some fn) :
    false = Tryd.pinned.checked.prog.looks [] ∧ ∀ (j : Nat) t, fn.params[j]? = some t → Tryd.pinned.checked.prog.wantsStandIn t = false := by
  obtain rfl : f = 7 := Option.some.inj ((show Tryd.prog.funcNamed "tapestrier/tapestrierlaw4.TokWhite" = some 7 by kernel_rfl).symm.trans hf) |>.symm
  obtain rfl : fn = Tryd.f7 := (Option.some.inj (Tryd.func7.symm.trans hfn)).symm
  refine ⟨by kernel_rfl, fun j t ht => ?_⟩
  rw [Tryd.params7] at ht
  have hm : t ∈ [26] := by simpa using Array.mem_of_getElem? ht
  have hall : ([26].all fun u => !Tryd.prog.wantsStandIn u) = true := by kernel_rfl
  exact (show Tryd.prog.wantsStandIn t = false by simpa using List.all_eq_true.1 hall t hm)

theorem tokWhite_card : Rows.TokWhiteCardSaid :=
  Claim7.holds_tied_plain_at .later [] _ _ _ _ tokWhite_said (fun _ h => by cases h) (by kernel_rfl) (fun _ h => by cases h) tokWhite_row_tie rfl ⟨rfl, rfl⟩ (by kernel_rfl) rfl tokWhite_plain (by kernel_rfl)
#print axioms tokWhite_card

end Go.Proofs.YtaecamnlimlpkabDoor
