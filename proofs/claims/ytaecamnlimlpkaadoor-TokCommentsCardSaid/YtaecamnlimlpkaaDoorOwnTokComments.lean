/- For all slices of bytes: the law tapestrierlaw4.TokComments returns true and leaves its arguments as they were; conditions: the tables hold what their texts lay (the card ties them to the program's text). -/
import Derived.Test.YtaecamnlimlpkaaDoorTkCom
import Derived.ArgAppend
namespace Go.Proofs.YtaecamnlimlpkaaDoor
open Go Go.ChangeShapes Go.WideShapes Go.ChangeAt Go.RowKit

def okA (u : UInt8) : Prop := u.toNat ≠ 34 ∧ u.toNat ≠ 39 ∧ u.toNat ≠ 47 ∧ u.toNat ≠ 92
def okB (u : UInt8) : Prop := u.toNat ≠ 42 ∧ u.toNat ≠ 47
theorem ok_all {p : UInt8 → Prop} {a : List UInt8} {k : Nat} (hk : a.length ≤ k) (h : ∀ j u, j < k → a[j]? = some u → p u) : ∀ u ∈ a, p u := by
  intro u hu
  obtain ⟨j, hj, rfl⟩ := List.mem_iff_getElem.1 hu
  exact h j _ (by omega) (List.getElem?_eq_getElem hj)

set_option maxRecDepth 100000 in
set_option maxHeartbeats 8000000 in
theorem tokComments_walk (w : World) (hT : LTabs w.heap.size w) (va : Value) (la : List UInt8) (hA : BytesAt w.heap.size w va la) (vb : Value) (lb : List UInt8) (hB : BytesAt w.heap.size w vb lb) (vc : Value) (lc : List UInt8) (hC : BytesAt w.heap.size w vc lc) :
    Calls Tryd.prog 6 #[va, vb, vc] w fun e w' => e = .returned (.bool true) ∧ Below w.heap.size w w' := by
  obtain ⟨i0, hi, hz0, hz1, hz2⟩ := info_parts infoByte
  obtain ⟨i5, hi5, hy0, hy1, hy2⟩ := info_parts infoTk
  obtain ⟨pa, ca, rfl⟩ := bytes_list hA
  obtain ⟨pb, cb, rfl⟩ := bytes_list hB
  obtain ⟨pc, cc, rfl⟩ := bytes_list hC
  have h0 := alive_any w hT
  go_enter Tryd.func6, Tryd.ntmps6
  go_wp2_with fail
  refine h0.mono ?_
  clear h0
  rintro e w1 ⟨rfl, b1⟩
  have T1 := hT.next b1
  have A1 := hA.next b1
  have B1 := hB.next b1
  have C1 := hC.next b1
  clear hA hB hC
  by_cases ha : (300 : Int) < (la.length : Int)
  · go_wp2
    go_ret
    exact ⟨rfl, b1⟩
  by_cases hb : (300 : Int) < (lb.length : Int)
  · go_wp2
    go_ret
    exact ⟨rfl, b1⟩
  by_cases hc : (300 : Int) < (lc.length : Int)
  · go_wp2
    go_ret
    exact ⟨rfl, b1⟩
  have hl1 : (la.length : Int) ≤ 300 := by omega
  have hl2 : (lb.length : Int) ≤ 300 := by omega
  have hl3 : (lc.length : Int) ≤ 300 := by omega
  clear ha hb hc
  go_wp2
  go_loopw [8] (fun i wr => ∃ k : Nat, i = .int .i64 k ∧ k ≤ lb.length ∧ w1 = wr ∧ ∀ j u, j < k → lb[j]? = some u → okB u) (fun i _ => lb.length - (intOf i).toNat)
  case atStart => exact ⟨0, rfl, Nat.zero_le _, rfl, fun j u hj => absurd hj (Nat.not_lt_zero j)⟩
  case round =>
    obtain ⟨k, rfl, hk, rfl, hall⟩ := hrel
    by_cases hlt : k < lb.length
    · obtain ⟨bk, off, hp, hcell⟩ : ∃ bk off, pb = some ⟨bk, off, none⟩ ∧ ∀ j u, lb[j]? = some u → w1.cell? ⟨bk, off + j, none⟩ = some (.int .u8 u.toNat) := by
        rcases B1 with ⟨rfl, _⟩ | ⟨bk, off, c, e, _, _, _, h⟩
        · simp at hlt
        · cases e; exact ⟨bk, off, rfl, h⟩
      subst hp
      have c0 := hcell k _ (List.getElem?_eq_getElem hlt)
      have hnext : okB lb[k] → ∀ j u, j < k + 1 → lb[j]? = some u → okB u := fun hd j u hj hu => by
        by_cases e : j = k
        · subst e; rw [List.getElem?_eq_getElem hlt] at hu; cases hu; exact hd
        · exact hall j u (by omega) hu
      clear hall hcell A1 B1 C1 T1
      generalize lb[k] = c at *
      have hki : (k : Int) < (lb.length : Int) := by omega
      by_cases hok : okB c
      · replace hnext := hnext hok
        have m1 : ((c.toNat : Int) == 42) = false := by have := hok.1; simp; omega
        have m2 : ((c.toNat : Int) == 47) = false := by have := hok.2; simp; omega
        clear hok
        go_wp2
        exact ⟨⟨k + 1, by go_num, by omega, trivial, hnext⟩, by simp [intOf]; omega⟩
      · clear hnext
        obtain e | e : c.toNat = 42 ∨ c.toNat = 47 := by unfold okB at hok; omega
        all_goals
          rw [e] at c0
          go_wp2
          go_ret
          exact ⟨rfl, b1⟩
    · have hki : ¬ (k : Int) < (lb.length : Int) := by omega
      have okb := ok_all (by omega) hall
      clear hall
      go_wp2
      go_loopw [9] (fun i wr => ∃ k : Nat, i = .int .i64 k ∧ k ≤ la.length ∧ w1 = wr ∧ ∀ j u, j < k → la[j]? = some u → okA u) (fun i _ => la.length - (intOf i).toNat)
      case atStart => exact ⟨0, rfl, Nat.zero_le _, rfl, fun j u hj => absurd hj (Nat.not_lt_zero j)⟩
      case round =>
        obtain ⟨q, rfl, hq, rfl, hall⟩ := hrel
        by_cases hlt : q < la.length
        · obtain ⟨bk, off, hp, hcell⟩ : ∃ bk off, pa = some ⟨bk, off, none⟩ ∧ ∀ j u, la[j]? = some u → w1.cell? ⟨bk, off + j, none⟩ = some (.int .u8 u.toNat) := by
            rcases A1 with ⟨rfl, _⟩ | ⟨bk, off, c, e, _, _, _, h⟩
            · simp at hlt
            · cases e; exact ⟨bk, off, rfl, h⟩
          subst hp
          have c0 := hcell q _ (List.getElem?_eq_getElem hlt)
          have hnext : okA la[q] → ∀ j u, j < q + 1 → la[j]? = some u → okA u := fun hd j u hj hu => by
            by_cases e : j = q
            · subst e; rw [List.getElem?_eq_getElem hlt] at hu; cases hu; exact hd
            · exact hall j u (by omega) hu
          clear hall hcell A1 B1 C1 T1
          generalize la[q] = c at *
          have hqi : (q : Int) < (la.length : Int) := by omega
          by_cases hok : okA c
          · replace hnext := hnext hok
            obtain ⟨n1, n2, n3, n4⟩ := hok
            have m1 : ((c.toNat : Int) == 92) = false := by simp; omega
            have m2 : ((c.toNat : Int) == 34) = false := by simp; omega
            have m3 : ((c.toNat : Int) == 39) = false := by simp; omega
            have m4 : ((c.toNat : Int) == 47) = false := by simp; omega
            clear n1 n2 n3 n4
            go_wp2
            exact ⟨⟨q + 1, by go_num, by omega, trivial, hnext⟩, by simp [intOf]; omega⟩
          · clear hnext
            obtain e | e | e | e : c.toNat = 34 ∨ c.toNat = 39 ∨ c.toNat = 47 ∨ c.toNat = 92 := by unfold okA at hok; omega
            all_goals
              rw [e] at c0
              go_wp2
              go_ret
              exact ⟨rfl, b1⟩
        · have hqi : ¬ (q : Int) < (la.length : Int) := by omega
          have oka := ok_all (by omega) hall
          clear hall
          have t1 := tks_com_shut okb
          have t2 := tks_com_open oka okb
          have t3 := tks_com_all oka okb
          have hx : (tksOf la).length ≤ 300 := by have := tksOf_len la; omega
          have h2 := ofB_any _ la w1 A1 T1 (by omega)
          clear oka okb
          go_wp2_with fail
          refine h2.mono ?_
          clear h2
          rintro e w2 ⟨v2, rfl, r2, b2⟩
          generalize tksOf la = tx at *
          have A2 := A1.next b2
          have B2 := B1.next b2
          have C2 := C1.next b2
          have T2 := T1.next b2
          have bb := b1.trans (b2.mono b1.size)
          clear A1 B1 C1 T1 b1 b2 hki hqi hk hq
          go_upto_region 15 with fail
          go_cut [11] (fun x wx => ∃ p c, x = .slice p 0 c ∧ Below w2.heap.size w2 wx)
          case first =>
            have hcv : (convert 31 31 (.slice (some ⟨w2.heap.size, 0, none⟩) 2 2)).run Tryd.prog (w2.alloc (.cells #[.int .u8 47, .int .u8 42] 5)) = .ok (.slice (some ⟨w2.heap.size, 0, none⟩) 2 2) (w2.alloc (.cells #[.int .u8 47, .int .u8 42] 5 (2, 3))) := Lib.run_convert_bytes_const (P := Tryd.prog) w2 31 5 #[.int .u8 47, .int .u8 42] 2 2 Tryd.underlying31 Tryd.underlying5
            have hba : Below w2.heap.size w2 (w2.alloc (.cells #[.int .u8 47, .int .u8 42] 5 (2, 3))) := (Below.refl _ w2).alloc (Nat.le_refl _) _
            have hsa : (w2.alloc (.cells #[.int .u8 47, .int .u8 42] 5 (2, 3))).heap.size = w2.heap.size + 1 := World.size_alloc _ _
            have hca : ∀ j u, ([.int .u8 47, .int .u8 42] : List Value)[j]? = some u → (w2.alloc (.cells #[.int .u8 47, .int .u8 42] 5 (2, 3))).cell? ((⟨w2.heap.size, 0, none⟩ : Addr).add j) = some u := fun j u hj => by
              rw [addr_add, cell_of_block (World.alloc_heap_new w2 _)]
              simpa using hj
            have T3 := T2.next hba
            have B3 := B2.next hba
            generalize w2.alloc (.cells #[.int .u8 47, .int .u8 42] 5 (2, 3)) = W at *
            by_cases hne : lb = []
            · subst hne
              clear B3 B2 A2 C2 t2 t3
              go_wp2_with (first
                | (at_builtin; refine wpList_append_zero _ rfl _ _ 31 rfl 5 i0 Tryd.underlying31 hi ⟨w2.heap.size, 0, none⟩ 2 2 rfl (Nat.le_refl _) pb cb rfl ?_)
                | (at_builtin; refine wpList_append_str_grows _ rfl _ _ 31 9 rfl 5 i0 Tryd.underlying31 Tryd.underlying9 hi hz0 hz1 hz2 ⟨w2.heap.size, 0, none⟩ 2 2 [.int .u8 47, .int .u8 42] rfl rfl hca ⟨#[42, 47]⟩ rfl (by decide) (by decide) (by decide) ?_; intro v4 w4 o4 g4))
              have b4 : Below W.heap.size W w4 := below_of_still g4 _ (Nat.le_refl _) (row := none) rfl
              have hB4 : BytesAt w4.heap.size w4 v4 (47 :: 42 :: ([] ++ [42, 47])) := BytesAt.of_owns (l := 47 :: 42 :: ([] ++ [42, 47])) (m := 2 + (⟨#[42, 47]⟩ : ByteArray).size) (by simpa [ubytes, strCells_ubytes] using o4) rfl
              have h5 := ofB_any v4 _ w4 hB4 (T3.next b4) (by simp)
              rw [t1] at h5
              refine h5.mono ?_
              clear h5
              rintro e w5 ⟨v5, rfl, r5, b5⟩
              obtain ⟨p, c, rfl⟩ : ∃ p c, v5 = .slice p 0 c := (TksAt.of_owns r5).len
              have bz := (hba.trans (b4.mono hba.size)).trans (b5.mono (Nat.le_trans hba.size b4.size))
              clear o4 g4 hB4 r5 hca hcv
              go_wp2
              go_meet
              exact ⟨p, c, rfl, bz⟩
            · rcases B3.src with ⟨_, e⟩ | ⟨ad, c, e, hcb⟩
              · exact absurd (List.length_eq_zero_iff.1 e) hne
              cases e
              have hpos := List.length_pos_iff.2 hne
              clear B3 B2 A2 C2 t2 t3
              go_wp2_with (first
                | (at_builtin; refine wpList_append_grows _ rfl _ _ 31 rfl 5 i0 (.int .u8 0) 1 1 Tryd.underlying31 hi hz0 hz1 hz2 rfl (by decide) (some ⟨w2.heap.size, 0, none⟩) 2 2 [.int .u8 47, .int .u8 42] rfl (fun h => by cases h) rfl (fun b hb j u hj => by cases hb; exact hca j u hj) ad lb.length _ (ubytes lb) rfl (by rw [ubytes_length]; omega) hcb (ubytes_one lb) (by omega) (by unfold maxLen; omega) (by omega) ?_; intro v3 w3 o3 g3; have s3 := g3.size; have b3 : Below W.heap.size W w3 := below_of_still g3 _ (Nat.le_refl _) (row := none) rfl)
                | (at_builtin; refine Lib.wpList_append_own_string _ rfl _ _ 31 9 rfl W.heap.size 5 i0 Tryd.underlying31 Tryd.underlying9 hi hz0 hz1 hz2 _ _ _ rfl o3 ⟨#[42, 47]⟩ rfl (by unfold maxLen; show _ + 2 ≤ _; omega) (by show _ + 2 ≤ _; omega) s3 ?_; intro v4 w4 o4 g4 n4; have b4 : Below W.heap.size W w4 := below_app b3 s3 o3 g4))
              have hB4 : BytesAt w4.heap.size w4 v4 (47 :: 42 :: (lb ++ [42, 47])) := BytesAt.of_owns (l := 47 :: 42 :: (lb ++ [42, 47])) (m := 2 + lb.length + (⟨#[42, 47]⟩ : ByteArray).size) (by simpa [ubytes, strCells_ubytes] using o4) (by show 2 + lb.length + 2 = _; simp; omega)
              have h5 := ofB_any v4 _ w4 hB4 (T3.next b4) (by simp; omega)
              rw [t1] at h5
              refine h5.mono ?_
              clear h5
              rintro e w5 ⟨v5, rfl, r5, b5⟩
              obtain ⟨p, c, rfl⟩ : ∃ p c, v5 = .slice p 0 c := (TksAt.of_owns r5).len
              have bz := (hba.trans (b4.mono hba.size)).trans (b5.mono (Nat.le_trans hba.size b4.size))
              clear o3 g3 o4 g4 n4 hB4 r5 hca hcv hcb
              go_wp2
              go_meet
              exact ⟨p, c, rfl, bz⟩
          case rest =>
          obtain ⟨p11, c11, rfl, b3⟩ := hcut
          rename World => w3
          have A3 := A2.next b3
          have B3 := B2.next b3
          have C3 := C2.next b3
          have T3 := T2.next b3
          replace r2 := owns_below r2 b3
          replace bb := bb.trans (b3.mono bb.size)
          clear A2 B2 C2 T2 b3 t1
          go_upto_region 16 with fail
          go_cut [12] (fun x wx => ∃ v, v = x ∧ wx.ownsRow w3.heap.size 26 5 v (tx ++ [(⟨9, [], 0, false, 0⟩ : Tk)]).length (tksCells (tx ++ [(⟨9, [], 0, false, 0⟩ : Tk)])) ∧ Below w3.heap.size w3 wx)
          case first =>
              go_wp2_with (first
                | (at_builtin; refine wpList_append_src _ rfl _ _ 31 rfl w3.heap.size 5 i0 (.int .u8 0) 1 1 Tryd.underlying31 hi hz0 hz1 hz2 rfl (by decide) (.slice none 0 0) 0 [] rfl (World.ownsRow_nil _ _ _ _) _ la.length (ubytes la) rfl (by rw [ubytes_length]; omega) A3.src (ubytes_one la) (by unfold maxLen; omega) (by omega) (Nat.le_refl _) ?_; intro v4 w4 o4 g4; have s4 := g4.size; have b4 : Below w3.heap.size w3 w4 := below_of_still g4 _ (Nat.le_refl _) (row := none) rfl)
                | (at_builtin; refine Lib.wpList_append_own_string _ rfl _ _ 31 9 rfl w3.heap.size 5 i0 Tryd.underlying31 Tryd.underlying9 hi hz0 hz1 hz2 _ _ _ rfl o4 ⟨#[47, 42]⟩ rfl (by unfold maxLen; show _ + 2 ≤ _; omega) (by show _ + 2 ≤ _; omega) s4 ?_; intro v5 w5 o5 g5 n5; have b5 : Below w3.heap.size w3 w5 := below_app b4 s4 o4 g5; have s5 := b5.size)
                | (at_builtin; refine wpList_append_src _ rfl _ _ 31 rfl w3.heap.size 5 i0 (.int .u8 0) 1 1 Tryd.underlying31 hi hz0 hz1 hz2 rfl (by decide) v5 _ _ rfl o5 _ lb.length (ubytes lb) rfl (by rw [ubytes_length]; omega) (B3.next b5).src (ubytes_one lb) (by unfold maxLen; show _ + 2 + _ ≤ _; omega) (by show (_ + 2 + _) * 1 ≤ _; omega) s5 ?_; intro v6 w6 o6 g6; have b6 : Below w3.heap.size w3 w6 := below_app b5 s5 o5 g6; have s6 := b6.size)
                | (at_builtin; refine Lib.wpList_append_own_string _ rfl _ _ 31 9 rfl w3.heap.size 5 i0 Tryd.underlying31 Tryd.underlying9 hi hz0 hz1 hz2 _ _ _ rfl o6 ⟨#[42, 47, 32]⟩ rfl (by unfold maxLen; show _ + 2 + _ + 3 ≤ _; omega) (by show _ + 2 + _ + 3 ≤ _; omega) s6 ?_; intro v7 w7 o7 g7 n7; have b7 : Below w3.heap.size w3 w7 := below_app b6 s6 o6 g7))
              have hB7 : BytesAt w7.heap.size w7 v7 (la ++ 47 :: 42 :: (lb ++ [42, 47, 32])) := BytesAt.of_owns (l := la ++ 47 :: 42 :: (lb ++ [42, 47, 32])) (m := 0 + la.length + (⟨#[47, 42]⟩ : ByteArray).size + lb.length + (⟨#[42, 47, 32]⟩ : ByteArray).size) (by simpa [ubytes, strCells_ubytes] using o7) (by show 0 + la.length + 2 + lb.length + 3 = _; simp; omega)
              have h8 := ofB_any v7 _ w7 hB7 (T3.next b7) (by simp; omega)
              rw [t3] at h8
              clear o4 g4 o5 g5 n5 o6 g6 o7 g7 n7 hB7 b4 b5 b6 s4 s5 s6
              refine h8.mono ?_
              clear h8
              rintro e w8 ⟨v8, rfl, r8, b8⟩
              have bz := b7.trans (b8.mono b7.size)
              replace r8 := owns_mono r8 b7.size
              go_wp2
              go_meet
              exact ⟨_, rfl, r8, bz⟩
          case rest =>
          obtain ⟨v12, rfl, r12, b4⟩ := hcut
          rename World => w4
          have A4 := A3.next b4
          have B4 := B3.next b4
          have C4 := C3.next b4
          have T4 := T3.next b4
          replace r2 := owns_below r2 b4
          replace bb := bb.trans (b4.mono bb.size)
          clear A3 B3 C3 T3 b4 t3
          go_upto_region 17 with fail
          go_cut [13] (fun x wx => ∃ v, v = x ∧ wx.ownsRow w4.heap.size 26 5 v tx.length (tksCells tx) ∧ Below w4.heap.size w4 wx)
          case first =>
              go_wp2_with (first
                | (at_builtin; refine wpList_append_src _ rfl _ _ 31 rfl w4.heap.size 5 i0 (.int .u8 0) 1 1 Tryd.underlying31 hi hz0 hz1 hz2 rfl (by decide) (.slice none 0 0) 0 [] rfl (World.ownsRow_nil _ _ _ _) _ la.length (ubytes la) rfl (by rw [ubytes_length]; omega) A4.src (ubytes_one la) (by unfold maxLen; omega) (by omega) (Nat.le_refl _) ?_; intro v14 w14 o14 g14; have s14 := g14.size; have b14 : Below w4.heap.size w4 w14 := below_of_still g14 _ (Nat.le_refl _) (row := none) rfl)
                | (at_builtin; refine Lib.wpList_append_own_string _ rfl _ _ 31 9 rfl w4.heap.size 5 i0 Tryd.underlying31 Tryd.underlying9 hi hz0 hz1 hz2 _ _ _ rfl o14 ⟨#[47, 42]⟩ rfl (by unfold maxLen; show _ + 2 ≤ _; omega) (by show _ + 2 ≤ _; omega) s14 ?_; intro v15 w15 o15 g15 n15; have b15 : Below w4.heap.size w4 w15 := below_app b14 s14 o14 g15; have s15 := b15.size)
                | (at_builtin; refine wpList_append_src _ rfl _ _ 31 rfl w4.heap.size 5 i0 (.int .u8 0) 1 1 Tryd.underlying31 hi hz0 hz1 hz2 rfl (by decide) v15 _ _ rfl o15 _ lb.length (ubytes lb) rfl (by rw [ubytes_length]; omega) (B4.next b15).src (ubytes_one lb) (by unfold maxLen; show _ + 2 + _ ≤ _; omega) (by show (_ + 2 + _) * 1 ≤ _; omega) s15 ?_; intro v16 w16 o16 g16; have b16 : Below w4.heap.size w4 w16 := below_app b15 s15 o15 g16; have s16 := b16.size))
              have hB17 : BytesAt w16.heap.size w16 v16 (la ++ 47 :: 42 :: lb) := BytesAt.of_owns (l := la ++ 47 :: 42 :: lb) (m := 0 + la.length + (⟨#[47, 42]⟩ : ByteArray).size + lb.length) (by simpa [ubytes, strCells_ubytes] using o16) (by show 0 + la.length + 2 + lb.length = _; simp; omega)
              have h18 := ofB_any v16 _ w16 hB17 (T4.next b16) (by simp; omega)
              rw [t2] at h18
              clear o14 g14 o15 g15 n15 o16 g16 hB17 b14 b15 s14 s15 s16
              refine h18.mono ?_
              clear h18
              rintro e w18 ⟨v18, rfl, r18, b18⟩
              have bz := b16.trans (b18.mono b16.size)
              replace r18 := owns_mono r18 b16.size
              go_wp2
              go_meet
              exact ⟨_, rfl, r18, bz⟩
          case rest =>
          obtain ⟨v13, rfl, r13, b5⟩ := hcut
          rename World => w5
          have C5 := C4.next b5
          have T5 := T4.next b5
          replace r2 := owns_below r2 b5
          replace r12 := owns_below r12 b5
          replace bb := bb.trans (b5.mono bb.size)
          clear A4 B4 C4 T4 b5 t2
          have h6 := sameToks_yes v13 v2 tx w5 (TksAt.of_owns r13) (TksAt.of_owns r2) (by omega)
          go_wp2_with fail
          refine h6.mono ?_
          clear h6 r13
          rintro e w6 ⟨rfl, b6⟩
          have C6 := C5.next b6
          have T6 := T5.next b6
          replace r2 := owns_below r2 b6
          replace r12 := owns_below r12 b6
          replace bb := bb.trans (b6.mono bb.size)
          clear C5 T5 b6
          go_wp2_with (first
            | (at_builtin; refine wpList_unguard (by rfl) ?_; refine wpList_append_src _ rfl _ _ 27 rfl w6.heap.size 26 i5 (.agg #[.int .i64 0, .string ⟨#[]⟩, .int .i64 0, .bool false, .int .i64 0]) 5 48 Tryd.underlying27 hi5 hy0 hy1 hy2 rfl (by decide) (.slice none 0 0) 0 [] rfl (World.ownsRow_nil _ _ _ _) _ tx.length (tksCells tx) rfl (by rw [tksCells_length]) (TksAt.src r2) (tksCells_one tx) (by unfold maxLen; omega) (by omega) (Nat.le_refl _) ?_; intro v7 w7 o7 g7; have s7 := g7.size; have b7 : Below w6.heap.size w6 w7 := below_of_still g7 _ (Nat.le_refl _) (row := none) rfl)
            | (at_builtin; refine wpList_unguard (by rfl) ?_; refine wpList_append_own _ rfl _ _ 27 rfl w6.heap.size 26 i5 (.agg #[.int .i64 0, .string ⟨#[]⟩, .int .i64 0, .bool false, .int .i64 0]) 5 48 Tryd.underlying27 hi5 hy0 hy1 hy2 rfl (by decide) _ _ _ rfl (o7.alloc _) ⟨w7.heap.size, 0, none⟩ 1 1 (tkCells ⟨9, [], 0, false, 0⟩) rfl rfl (cells_new _ (tkCells ⟨9, [], 0, false, 0⟩) _) (fun u hu => by simp [tkCells] at hu; rcases hu with rfl | rfl | rfl | rfl | rfl <;> rfl) (by unfold maxLen; omega) (by omega) (by simp; omega) ?_; intro v8 w8 o8 g8 n8; have b8 : Below w6.heap.size w6 w8 := below_app (b7.alloc s7 _) (by simp; omega) (o7.alloc _) g8))
          have o9 : w8.ownsRow w6.heap.size 26 5 v8 (tx ++ [(⟨9, [], 0, false, 0⟩ : Tk)]).length (tksCells (tx ++ [(⟨9, [], 0, false, 0⟩ : Tk)])) := by
            have e1 : tksCells (tx ++ [(⟨9, [], 0, false, 0⟩ : Tk)]) = [] ++ tksCells tx ++ tkCells ⟨9, [], 0, false, 0⟩ := by simp [tksCells]
            have e2 : (tx ++ [(⟨9, [], 0, false, 0⟩ : Tk)]).length = 0 + tx.length + 1 := by simp
            rw [e1, e2]
            exact o8
          have h10 := sameToks_yes v12 v8 (tx ++ [(⟨9, [], 0, false, 0⟩ : Tk)]) w8 (TksAt.of_owns (owns_below r12 b8)) (TksAt.of_owns o9) (by simp; omega)
          clear o7 g7 o8 g8 n8 o9 r2 r12 s7
          refine h10.mono ?_
          clear h10
          rintro e w10 ⟨rfl, b10⟩
          have b60 := b8.trans (b10.mono b8.size)
          have h11 := ofB_any _ lc w10 (C6.next b60) (T6.next b60) (by omega)
          have hle : ((tksOf lc).length : Int) ≤ (lc.length : Int) := by have := tksOf_len lc; omega
          generalize tksOf lc = tc at *
          clear C6 T6 b8 b7 b10
          go_wp2_with fail
          refine h11.mono ?_
          clear h11
          rintro e w11 ⟨v11, rfl, r11, b11⟩
          obtain ⟨p, c, rfl⟩ : ∃ p c, v11 = .slice p tc.length c := (TksAt.of_owns r11).len
          have bz := b60.trans (b11.mono b60.size)
          clear r11
          go_wp2
          go_ret
          exact ⟨rfl, bb.trans (bz.mono bb.size)⟩

theorem tokComments_met (os : Os) : laidMet Tryd.prog Rows.tokCommentsRow.laid ((laidIn (World.holding Tryd.prog os ⟨#[], #[], []⟩)).forCall (fun _ _ => 0) ⟨#[], #[.slice none 0 0, .slice none 0 0, .slice none 0 0], []⟩).memory :=
  laidMet_of_run' 8 (by kernel_rfl) (by kernel_rfl)
theorem tokComments_reads (os : Os) {H : Type} (enc : TypeId × Value → H) : ∃ places, DataW.whole enc Tryd.prog ((laidIn (World.holding Tryd.prog os ⟨#[], #[], []⟩)).forCall (fun _ _ => 0) ⟨#[], #[.slice none 0 0, .slice none 0 0, .slice none 0 0], []⟩).memory Tryd.f6.params.toList Rows.tokCommentsSpec.vars false (#[.slice none 0 0, .slice none 0 0, .slice none 0 0] : Array Value).toList 8 = some ([.nil, .nil, .nil], [], places) :=
  ⟨[], by kernel_rfl⟩

set_option maxRecDepth 100000 in
theorem tokComments_lifted (os : Os) (started : os.Started) (H : Type) (enc : TypeId × Value → H) (F : Stop.Interp) :
    ReturnsInHanded {} Tryd.checked os 6 .any ((OpenSpec.ofChange Rows.tokCommentsSpec).preRow enc Tryd.prog Tryd.f6 Rows.tokCommentsRow.domain false Rows.tokCommentsRow.laid) (((OpenSpec.ofChange Rows.tokCommentsSpec).at F).post enc Tryd.prog Tryd.f6 false true false false) := by
  obtain ⟨places, hx⟩ := tokComments_reads os enc
  refine returnsInHanded_of_row (C := Tryd.checked) (s := OpenSpec.ofChange Rows.tokCommentsSpec) ownNone started (by kernel_rfl) Tryd.func6
    (witness_row_at (enc := enc) (C := Tryd.checked) false (laidIn (World.holding Tryd.prog os ⟨#[], #[], []⟩)) #[.slice none 0 0, .slice none 0 0, .slice none 0 0] rfl (by kernel_rfl) (by kernel_rfl) (by kernel_rfl)
      (OpenSpec.preRow_of_cond 8 hx (by kernel_rfl) (fun k hk => by cases hk) (by kernel_rfl) (tokComments_met os))) ?_
  intro W base args ds gs before hval hW _ _ _ hL hS _
  have hW' := hW
  obtain ⟨p, q, hA0, hV, rfl, hfz, hnd⟩ := hW
  have hA : DataW.TrodAll enc Tryd.prog W 0 (fun _ => true) true Tryd.f6.params.toList args.toList ds p := hA0
  rw [Tryd.params6] at hA hval
  obtain ⟨v0, vs0, d0, ds0, p0, q0, hargs, rfl, rfl, h0, r0⟩ := trodAll_cons hA
  obtain ⟨v1, vs1, d1, ds1, p1, q1, rfl, rfl, rfl, h1, r1⟩ := trodAll_cons r0
  obtain ⟨v2, vs2, d2, ds2, p2, q2, rfl, rfl, rfl, h2, r2⟩ := trodAll_cons r1
  obtain ⟨rfl, rfl, rfl⟩ := trodAll_nil r2
  obtain rfl : args = #[v0, v1, v2] := by cases args; simp_all
  obtain ⟨rfl, rfl⟩ := trodVars_none hV
  obtain ⟨a0, len0, cap0, rfl⟩ := okWide_slice Tryd.underlying31 (hval 0 31 v0 rfl rfl)
  have k0 := h0
  have lt0 : ∀ x ∈ p0, x.block < W.heap.size := by obtain ⟨m, hm⟩ := k0; exact DataW.trod_lt m _ _ _ hm
  obtain ⟨z0, w0⟩ := bytesAt_of_reads k0
  obtain ⟨a1, len1, cap1, rfl⟩ := okWide_slice Tryd.underlying31 (hval 1 31 v1 rfl rfl)
  have k1 := h1
  have lt1 : ∀ x ∈ p1, x.block < W.heap.size := by obtain ⟨m, hm⟩ := k1; exact DataW.trod_lt m _ _ _ hm
  obtain ⟨z1, w1⟩ := bytesAt_of_reads k1
  obtain ⟨a2, len2, cap2, rfl⟩ := okWide_slice Tryd.underlying31 (hval 2 31 v2 rfl rfl)
  have k2 := h2
  have lt2 : ∀ x ∈ p2, x.block < W.heap.size := by obtain ⟨m, hm⟩ := k2; exact DataW.trod_lt m _ _ _ hm
  obtain ⟨z2, w2⟩ := bytesAt_of_reads k2
  clear hA0
  refine (tokComments_walk W (tabs_of_laid hL hS) _ z0 w0 _ z1 w1 _ z2 w2).mono fun e W' ⟨he, bel⟩ => ?_
  subst he
  exact ⟨_, rfl, _, _, _, [], _, [], hW', trodAll_mk1 (shut_bool Tryd.underlying4 _), (trodAll_cons_mk (Below.trod laidOut (by kernel_rfl) (of_decide_eq_true (by kernel_rfl)) k0 bel lt0) (trodAll_cons_mk (Below.trod laidOut (by kernel_rfl) (of_decide_eq_true (by kernel_rfl)) k1 bel lt1) (trodAll_cons_mk (Below.trod laidOut (by kernel_rfl) (of_decide_eq_true (by kernel_rfl)) k2 bel lt2) trodAll_mk0))), rfl, bel.frame _, fun h => by cases h⟩

theorem tokComments_said : Rows.TokCommentsSaid :=
  OpenClaim.holds_of_cond 6 Tryd.f6 rfl rfl rfl rfl rfl rfl rfl ⟨rfl, rfl, rfl, rfl, rfl⟩ rfl rfl rfl rfl rfl (by kernel_rfl) Tryd.func6 (by kernel_rfl)
    (of_decide_eq_true (by kernel_rfl)) (by unfold Func.isWrapper; first | (rw [if_pos (by decide +kernel)]; kernel_rfl) | (rw [if_neg (by decide +kernel)]; exact ⟨rfl, rfl⟩))
    (fun os started H enc _ F => by rw [OpenClaim.pre_eq_preRow]; exact tokComments_lifted os started H enc F)

theorem tokComments_plain (f : FuncId) (fn : Func) (hf : Tryd.pinned.checked.prog.funcNamed "tapestrier/tapestrierlaw4.TokComments" = some f) (hfn : Tryd.pinned.checked.prog.funcs[f]? = some fn) :
    false = Tryd.pinned.checked.prog.looks [] ∧ ∀ (j : Nat) t, fn.params[j]? = some t → Tryd.pinned.checked.prog.wantsStandIn t = false := by
  obtain rfl : f = 6 := Option.some.inj ((show Tryd.prog.funcNamed "tapestrier/tapestrierlaw4.TokComments" = some 6 by kernel_rfl).symm.trans hf) |>.symm
  obtain rfl : fn = Tryd.f6 := (Option.some.inj (Tryd.func6.symm.trans hfn)).symm
  refine ⟨by kernel_rfl, fun j t ht => ?_⟩
  rw [Tryd.params6] at ht
  have hm : t ∈ [31] := by simpa using Array.mem_of_getElem? ht
  have hall : ([31].all fun u => !Tryd.prog.wantsStandIn u) = true := by kernel_rfl
  exact (show Tryd.prog.wantsStandIn t = false by simpa using List.all_eq_true.1 hall t hm)

theorem tokComments_card : Rows.TokCommentsCardSaid :=
  Claim7.holds_tied_plain_at .later [] _ _ _ _ tokComments_said (fun _ h => by cases h) (by kernel_rfl) (fun _ h => by cases h) tokComments_row_tie rfl ⟨rfl, rfl⟩ (by kernel_rfl) rfl tokComments_plain (by kernel_rfl)
#print axioms tokComments_card

end Go.Proofs.YtaecamnlimlpkaaDoor
