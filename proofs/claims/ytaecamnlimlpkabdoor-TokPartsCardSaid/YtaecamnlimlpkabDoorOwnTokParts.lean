/- For all slices of bytes: the law tapestrierlaw4.TokParts returns true and leaves its arguments as they were; conditions: the tables hold what their texts lay (the card ties them to the program's text). -/
import Derived.Test.YtaecamnlimlpkabDoorTkApp
namespace Go.Proofs.YtaecamnlimlpkabDoor
open Go Go.ChangeShapes Go.WideShapes Go.ChangeAt Go.RowKit

def okPart (u : UInt8) : Prop := u.toNat ≠ 34 ∧ u.toNat ≠ 39 ∧ u.toNat ≠ 47 ∧ u.toNat ≠ 92
theorem tks_parts {a b : List UInt8} (ha : ∀ u ∈ a, okPart u) (hb : ∀ u, b.head? = some u → u.toNat ≠ 10 ∧ u.toNat ≠ 13 ∧ u.toNat ≠ 12 ∧ u.toNat ≠ 9 ∧ u.toNat ≠ 32) : tksOf (a ++ 59 :: 32 :: b) = tksOf (a ++ [59]) ++ ⟨9, [], 0, false, 0⟩ :: tksOf b := by
  unfold tksOf
  rw [prep_semi (c := 59) (by decide) (by decide) (by decide) (by decide) (by decide), prep_semi (c := 59) (by decide) (by decide) (by decide) (by decide) (by decide),
    show ipts (32 :: b) = ((32 : UInt8).toNat : Int) :: ipts b from ipts_plain1 (by decide) b, prep_cons (by decide) (by decide) (by decide)]
  exact toks_parts nvOf (prep_plainly ha) (prep_first hb)
theorem okPart_all {a : List UInt8} {k : Nat} (hk : a.length ≤ k) (h : ∀ j u, j < k → a[j]? = some u → okPart u) : ∀ u ∈ a, okPart u := by
  intro u hu
  obtain ⟨j, hj, rfl⟩ := List.mem_iff_getElem.1 hu
  exact h j _ (by omega) (List.getElem?_eq_getElem hj)

set_option maxRecDepth 100000 in
set_option maxHeartbeats 8000000 in
theorem tokParts_walk (w : World) (hT : LTabs w.heap.size w) (va : Value) (la : List UInt8) (hA : BytesAt w.heap.size w va la) (vb : Value) (lb : List UInt8) (hB : BytesAt w.heap.size w vb lb) :
    Calls Tryd.prog 5 #[va, vb] w fun e w' => e = .returned (.bool true) ∧ Below w.heap.size w w' := by
  obtain ⟨i0, hi, hz0, hz1, hz2⟩ := info_parts infoByte
  obtain ⟨i5, hi5, hy0, hy1, hy2⟩ := info_parts infoTk
  obtain ⟨pa, ca, rfl⟩ := bytes_list hA
  obtain ⟨pb, cb, rfl⟩ := bytes_list hB
  have h0 := alive_any w hT
  by_cases hlen : la.length ≤ 500 ∧ lb.length ≤ 500
  · have hl1 : (la.length : Int) ≤ 500 := by omega
    have hl2 : (lb.length : Int) ≤ 500 := by omega
    go_enter Tryd.func5, Tryd.ntmps5
    go_wp2_with fail
    refine h0.mono ?_
    clear h0
    rintro e w1 ⟨rfl, b1⟩
    have T1 := hT.next b1
    have A1 := hA.next b1
    have B1 := hB.next b1
    clear hA hB
    go_wp2
    go_loopw [6] (fun i wr => ∃ k : Nat, i = .int .i64 k ∧ k ≤ la.length ∧ wr = w1 ∧ ∀ j u, j < k → la[j]? = some u → okPart u) (fun i _ => la.length - (intOf i).toNat)
    case atStart => exact ⟨0, rfl, Nat.zero_le _, rfl, fun j u hj => absurd hj (Nat.not_lt_zero j)⟩
    case round =>
      obtain ⟨k, rfl, hk, rfl, hall⟩ := hrel
      by_cases hlt : k < la.length
      · obtain ⟨bk, off, hp, hcell⟩ : ∃ bk off, pa = some ⟨bk, off, none⟩ ∧ ∀ j u, la[j]? = some u → wr.cell? ⟨bk, off + j, none⟩ = some (.int .u8 u.toNat) := by
          rcases A1 with ⟨rfl, _⟩ | ⟨bk, off, c, e, _, _, _, h⟩
          · simp at hlt
          · cases e; exact ⟨bk, off, rfl, h⟩
        subst hp
        have c0 := hcell k _ (List.getElem?_eq_getElem hlt)
        have hnext : okPart la[k] → ∀ j u, j < k + 1 → la[j]? = some u → okPart u := fun hd j u hj hu => by
          by_cases e : j = k
          · subst e; rw [List.getElem?_eq_getElem hlt] at hu; cases hu; exact hd
          · exact hall j u (by omega) hu
        clear hall hcell A1 B1 T1
        generalize la[k] = c at *
        have hki : (k : Int) < (la.length : Int) := by omega
        go_wp2
        case roundEnd =>
          have hh := ‹((((c.toNat : Int) == 34) = false ∧ ((c.toNat : Int) == 39) = false) ∧ ((c.toNat : Int) == 92) = false) ∧ ((c.toNat : Int) == 47) = false›
          exact ⟨⟨k + 1, by go_num, by omega, trivial, hnext ⟨fun e => by rw [e] at hh; exact absurd hh.1.1.1 (by decide), fun e => by rw [e] at hh; exact absurd hh.1.1.2 (by decide), fun e => by rw [e] at hh; exact absurd hh.2 (by decide), fun e => by rw [e] at hh; exact absurd hh.1.2 (by decide)⟩⟩, by simp [intOf]; omega⟩
        all_goals (go_ret; exact ⟨rfl, b1⟩)
      · have hki : ¬ (k : Int) < (la.length : Int) := by omega
        have hok := okPart_all (by omega) hall
        clear hall
        go_wp2
        go_loopw [7] (fun i wx => i = .int .i64 0 ∧ wx = wr) (fun _ _ => 0)
        case atStart => exact ⟨rfl, rfl⟩
        case round =>
          obtain ⟨rfl, rfl⟩ := hrel
          have hfw : (∀ u, lb.head? = some u → u.toNat ≠ 10 ∧ u.toNat ≠ 13 ∧ u.toNat ≠ 12 ∧ u.toNat ≠ 9 ∧ u.toNat ≠ 32) ∨ ∃ u, lb.head? = some u ∧ (u.toNat = 10 ∨ u.toNat = 13 ∨ u.toNat = 12 ∨ u.toNat = 9 ∨ u.toNat = 32) := by
            cases lb with
            | nil => exact .inl (fun u h => by cases h)
            | cons c r =>
              by_cases hw : c.toNat = 10 ∨ c.toNat = 13 ∨ c.toNat = 12 ∨ c.toNat = 9 ∨ c.toNat = 32
              · exact .inr ⟨c, rfl, hw⟩
              · exact .inl (fun u h => by cases h; omega)
          have hcb : ∀ u, lb.head? = some u → ∃ bk off, pb = some ⟨bk, off, none⟩ ∧ wr.cell? ⟨bk, off, none⟩ = some (.int .u8 u.toNat) ∧ (0 : Int) < (lb.length : Int) := fun u hu => by
            rcases B1 with ⟨rfl, _⟩ | ⟨bk, off, c, e, _, _, _, h⟩
            · cases hu
            · cases e
              refine ⟨bk, off, rfl, ?_, ?_⟩
              · have := h 0 u (by rw [← List.head?_eq_getElem?]; exact hu)
                rwa [Nat.add_zero] at this
              · cases lb with
                | nil => cases hu
                | cons c r => simp
          rcases hfw with hfw | ⟨u, hu, hw⟩
          · have htk := tks_parts hok hfw
            by_cases hne : lb = []
            · have hlb : ¬ (0 : Int) < (lb.length : Int) := by rw [hne]; simp
              clear hcb hne
              go_upto_region 14 with fail
              go_wp2_with (first
                | (at_builtin; refine wpList_append_src _ rfl _ _ 24 rfl wr.heap.size 5 i0 (.int .u8 0) 1 1 Tryd.underlying24 hi hz0 hz1 hz2 rfl (by decide) (.slice none 0 0) 0 [] rfl (World.ownsRow_nil _ _ _ _) _ la.length (ubytes la) rfl (by rw [ubytes_length]; omega) A1.src (ubytes_one la) (by unfold maxLen; omega) (by omega) (Nat.le_refl _) ?_; intro v2 w2 o2 g2; have s2 := g2.size)
                | (at_builtin; refine wpList_append_own _ rfl _ _ 24 rfl wr.heap.size 5 i0 (.int .u8 0) 1 1 Tryd.underlying24 hi hz0 hz1 hz2 rfl (by decide) _ _ _ rfl (o2.alloc _) ⟨w2.heap.size, 0, none⟩ 1 1 [.int .u8 59] rfl rfl (cells_new _ [.int .u8 59] _) (fun x hx => by simp at hx; subst hx; rfl) (by unfold maxLen; omega) (by omega) (by simp; omega) ?_; intro v3 w3 o3 g3 n3))
              have b2 : Below wr.heap.size wr w2 := below_of_still g2 _ (Nat.le_refl _) (row := none) rfl
              have b3 : Below wr.heap.size wr w3 := below_app (b2.alloc s2 _) (by simp; omega) (o2.alloc _) g3
              have hB3 : BytesAt w3.heap.size w3 v3 (la ++ [59]) := BytesAt.of_owns (l := la ++ [59]) (m := 0 + la.length + 1) (by simpa [ubytes] using o3) (by simp)
              have h4 := ofB_any v3 (la ++ [59]) w3 hB3 (T1.next b3) (by simp; omega)
              clear o2 g2 o3 g3 n3 hB3 b2 s2
              refine h4.mono ?_
              clear h4
              rintro e w4 ⟨v4, rfl, r4, b4⟩
              have b14 := b3.trans (b4.mono b3.size)
              have h5 := ofB_any _ lb w4 (B1.next b14) (T1.next b14) (by omega)
              go_wp2_with fail
              refine h5.mono ?_
              clear h5
              rintro e w5 ⟨v5, rfl, r5, b5⟩
              replace r4 := owns_below r4 b5
              have b15 := b14.trans (b5.mono b14.size)
              have A5 := A1.next b15
              have B5 := B1.next b15
              have T5 := T1.next b15
              clear b3 b4 b14 b5 A1 B1 T1
              go_wp2_with (first
                | (at_builtin; refine wpList_append_src _ rfl _ _ 24 rfl w5.heap.size 5 i0 (.int .u8 0) 1 1 Tryd.underlying24 hi hz0 hz1 hz2 rfl (by decide) (.slice none 0 0) 0 [] rfl (World.ownsRow_nil _ _ _ _) _ la.length (ubytes la) rfl (by rw [ubytes_length]; omega) A5.src (ubytes_one la) (by unfold maxLen; omega) (by omega) (Nat.le_refl _) ?_; intro v6 w6 o6 g6; have s6 := g6.size; have b6 : Below w5.heap.size w5 w6 := below_of_still g6 _ (Nat.le_refl _) (row := none) rfl)
                | (at_builtin; refine Lib.wpList_append_own_string _ rfl _ _ 24 9 rfl w5.heap.size 5 i0 Tryd.underlying24 Tryd.underlying9 hi hz0 hz1 hz2 _ _ _ rfl o6 ⟨#[59, 32]⟩ rfl (by unfold maxLen; show _ + 2 ≤ _; omega) (by show _ + 2 ≤ _; omega) s6 ?_; intro v7 w7 o7 g7 n7; have b7 : Below w5.heap.size w5 w7 := below_app b6 s6 o6 g7; have s7 := b7.size)
                | (at_builtin; refine wpList_append_src _ rfl _ _ 24 rfl w5.heap.size 5 i0 (.int .u8 0) 1 1 Tryd.underlying24 hi hz0 hz1 hz2 rfl (by decide) v7 _ _ rfl o7 _ lb.length (ubytes lb) rfl (by rw [ubytes_length]; omega) (B5.next b7).src (ubytes_one lb) (by unfold maxLen; show _ + 2 + _ ≤ _; omega) (by show (_ + 2 + _) * 1 ≤ _; omega) s7 ?_; intro v8 w8 o8 g8; have b8 : Below w5.heap.size w5 w8 := below_app b7 s7 o7 g8))
              have hB8 : BytesAt w8.heap.size w8 v8 (la ++ 59 :: 32 :: lb) := BytesAt.of_owns (l := la ++ 59 :: 32 :: lb) (m := 0 + la.length + (⟨#[59, 32]⟩ : ByteArray).size + lb.length) (by simpa [ubytes, strCells_ubytes] using o8) (by show 0 + la.length + 2 + lb.length = _; simp; omega)
              have h9 := ofB_any v8 (la ++ 59 :: 32 :: lb) w8 hB8 (T5.next b8) (by simp; omega)
              rw [htk] at h9
              clear o6 g6 o7 g7 n7 o8 g8 hB8 b6 b7 s6 s7 A5 B5
              refine h9.mono ?_
              clear h9
              rintro e w9 ⟨v9, rfl, r9, b9⟩
              have b59 := b8.trans (b9.mono b8.size)
              replace r4 := owns_below r4 b59
              replace r5 := owns_below r5 b59
              have hx : (tksOf (la ++ [59])).length ≤ 501 := by have := tksOf_len (la ++ [59]); simp at this; omega
              have hy : (tksOf lb).length ≤ 500 := by have := tksOf_len lb; omega
              generalize tksOf (la ++ [59]) = tx at *
              generalize tksOf lb = ty at *
              go_wp2_with (first
                | (at_builtin; refine wpList_append_src _ rfl _ _ 28 rfl w9.heap.size 31 i5 (.agg #[.int .i64 0, .string ⟨#[]⟩, .int .i64 0, .bool false, .int .i64 0]) 5 48 Tryd.underlying28 hi5 hy0 hy1 hy2 rfl (by decide) (.slice none 0 0) 0 [] rfl (World.ownsRow_nil _ _ _ _) _ tx.length (tksCells tx) rfl (by rw [tksCells_length]) (TksAt.src r4) (tksCells_one tx) (by unfold maxLen; omega) (by omega) (Nat.le_refl _) ?_; intro v10 w10 o10 g10; have s10 := g10.size; have b10 : Below w9.heap.size w9 w10 := below_of_still g10 _ (Nat.le_refl _) (row := none) rfl)
                | (at_builtin; refine wpList_append_own _ rfl _ _ 28 rfl w9.heap.size 31 i5 (.agg #[.int .i64 0, .string ⟨#[]⟩, .int .i64 0, .bool false, .int .i64 0]) 5 48 Tryd.underlying28 hi5 hy0 hy1 hy2 rfl (by decide) _ _ _ rfl (o10.alloc _) ⟨w10.heap.size, 0, none⟩ 1 1 (tkCells ⟨9, [], 0, false, 0⟩) rfl rfl (cells_new _ (tkCells ⟨9, [], 0, false, 0⟩) _) (fun u hu => by simp [tkCells] at hu; rcases hu with rfl | rfl | rfl | rfl | rfl <;> rfl) (by unfold maxLen; omega) (by omega) (by simp; omega) ?_; intro v11 w11 o11 g11 n11; have b11 : Below w9.heap.size w9 w11 := below_app (b10.alloc s10 _) (by simp; omega) (o10.alloc _) g11; have s11 := b11.size)
                | (at_builtin; refine wpList_append_src _ rfl _ _ 28 rfl w9.heap.size 31 i5 (.agg #[.int .i64 0, .string ⟨#[]⟩, .int .i64 0, .bool false, .int .i64 0]) 5 48 Tryd.underlying28 hi5 hy0 hy1 hy2 rfl (by decide) v11 _ _ rfl o11 _ ty.length (tksCells ty) rfl (by rw [tksCells_length]) (TksAt.src (owns_below r5 b11)) (tksCells_one ty) (by unfold maxLen; omega) (by omega) s11 ?_; intro v12 w12 o12 g12; have b12 : Below w9.heap.size w9 w12 := below_app b11 s11 o11 g12))
              have o13 : w12.ownsRow w9.heap.size 31 5 v12 (tx ++ ⟨9, [], 0, false, 0⟩ :: ty).length (tksCells (tx ++ ⟨9, [], 0, false, 0⟩ :: ty)) := by
                have e1 : tksCells (tx ++ ⟨9, [], 0, false, 0⟩ :: ty) = [] ++ tksCells tx ++ tkCells ⟨9, [], 0, false, 0⟩ ++ tksCells ty := by simp [tksCells]
                have e2 : (tx ++ (⟨9, [], 0, false, 0⟩ : Tk) :: ty).length = 0 + tx.length + 1 + ty.length := by simp; omega
                rw [e1, e2]
                exact o12
              have h14 := sameToks_yes v9 v12 (tx ++ ⟨9, [], 0, false, 0⟩ :: ty) w12 (TksAt.of_owns (owns_below r9 b12)) (TksAt.of_owns o13) (by simp; omega)
              clear o10 g10 o11 g11 n11 o12 g12 o13 r4 r5 r9
              refine h14.mono ?_
              clear h14
              rintro e w14 ⟨rfl, b14⟩
              have bz := ((b15.trans (b59.mono b15.size)).trans (b12.mono (Nat.le_trans b15.size b59.size))).trans (b14.mono (Nat.le_trans b15.size (Nat.le_trans b59.size b12.size)))
              go_wp2
              go_ret
              exact ⟨rfl, b1.trans (bz.mono b1.size)⟩
            · obtain ⟨u, hu⟩ : ∃ u, lb.head? = some u := by
                cases lb with
                | nil => exact absurd rfl hne
                | cons c r => exact ⟨c, rfl⟩
              obtain ⟨bk, off, rfl, c0, hl0⟩ := hcb u hu
              obtain ⟨n1, n2, n3, n4, n5⟩ := hfw u hu
              have m1 : ((u.toNat : Int) == 10) = false := by simp; omega
              have m2 : ((u.toNat : Int) == 13) = false := by simp; omega
              have m3 : ((u.toNat : Int) == 12) = false := by simp; omega
              have m4 : ((u.toNat : Int) == 9) = false := by simp; omega
              have m5 : ((u.toNat : Int) == 32) = false := by simp; omega
              clear hcb n1 n2 n3 n4 n5 hfw hu
              go_upto_region 14 with fail
              clear m1 m2 m3 m4 m5 c0
              go_wp2_with (first
                | (at_builtin; refine wpList_append_src _ rfl _ _ 24 rfl wr.heap.size 5 i0 (.int .u8 0) 1 1 Tryd.underlying24 hi hz0 hz1 hz2 rfl (by decide) (.slice none 0 0) 0 [] rfl (World.ownsRow_nil _ _ _ _) _ la.length (ubytes la) rfl (by rw [ubytes_length]; omega) A1.src (ubytes_one la) (by unfold maxLen; omega) (by omega) (Nat.le_refl _) ?_; intro v2 w2 o2 g2; have s2 := g2.size)
                | (at_builtin; refine wpList_append_own _ rfl _ _ 24 rfl wr.heap.size 5 i0 (.int .u8 0) 1 1 Tryd.underlying24 hi hz0 hz1 hz2 rfl (by decide) _ _ _ rfl (o2.alloc _) ⟨w2.heap.size, 0, none⟩ 1 1 [.int .u8 59] rfl rfl (cells_new _ [.int .u8 59] _) (fun x hx => by simp at hx; subst hx; rfl) (by unfold maxLen; omega) (by omega) (by simp; omega) ?_; intro v3 w3 o3 g3 n3))
              have b2 : Below wr.heap.size wr w2 := below_of_still g2 _ (Nat.le_refl _) (row := none) rfl
              have b3 : Below wr.heap.size wr w3 := below_app (b2.alloc s2 _) (by simp; omega) (o2.alloc _) g3
              have hB3 : BytesAt w3.heap.size w3 v3 (la ++ [59]) := BytesAt.of_owns (l := la ++ [59]) (m := 0 + la.length + 1) (by simpa [ubytes] using o3) (by simp)
              have h4 := ofB_any v3 (la ++ [59]) w3 hB3 (T1.next b3) (by simp; omega)
              clear o2 g2 o3 g3 n3 hB3 b2 s2
              refine h4.mono ?_
              clear h4
              rintro e w4 ⟨v4, rfl, r4, b4⟩
              have b14 := b3.trans (b4.mono b3.size)
              have h5 := ofB_any _ lb w4 (B1.next b14) (T1.next b14) (by omega)
              go_wp2_with fail
              refine h5.mono ?_
              clear h5
              rintro e w5 ⟨v5, rfl, r5, b5⟩
              replace r4 := owns_below r4 b5
              have b15 := b14.trans (b5.mono b14.size)
              have A5 := A1.next b15
              have B5 := B1.next b15
              have T5 := T1.next b15
              clear b3 b4 b14 b5 A1 B1 T1
              go_wp2_with (first
                | (at_builtin; refine wpList_append_src _ rfl _ _ 24 rfl w5.heap.size 5 i0 (.int .u8 0) 1 1 Tryd.underlying24 hi hz0 hz1 hz2 rfl (by decide) (.slice none 0 0) 0 [] rfl (World.ownsRow_nil _ _ _ _) _ la.length (ubytes la) rfl (by rw [ubytes_length]; omega) A5.src (ubytes_one la) (by unfold maxLen; omega) (by omega) (Nat.le_refl _) ?_; intro v6 w6 o6 g6; have s6 := g6.size; have b6 : Below w5.heap.size w5 w6 := below_of_still g6 _ (Nat.le_refl _) (row := none) rfl)
                | (at_builtin; refine Lib.wpList_append_own_string _ rfl _ _ 24 9 rfl w5.heap.size 5 i0 Tryd.underlying24 Tryd.underlying9 hi hz0 hz1 hz2 _ _ _ rfl o6 ⟨#[59, 32]⟩ rfl (by unfold maxLen; show _ + 2 ≤ _; omega) (by show _ + 2 ≤ _; omega) s6 ?_; intro v7 w7 o7 g7 n7; have b7 : Below w5.heap.size w5 w7 := below_app b6 s6 o6 g7; have s7 := b7.size)
                | (at_builtin; refine wpList_append_src _ rfl _ _ 24 rfl w5.heap.size 5 i0 (.int .u8 0) 1 1 Tryd.underlying24 hi hz0 hz1 hz2 rfl (by decide) v7 _ _ rfl o7 _ lb.length (ubytes lb) rfl (by rw [ubytes_length]; omega) (B5.next b7).src (ubytes_one lb) (by unfold maxLen; show _ + 2 + _ ≤ _; omega) (by show (_ + 2 + _) * 1 ≤ _; omega) s7 ?_; intro v8 w8 o8 g8; have b8 : Below w5.heap.size w5 w8 := below_app b7 s7 o7 g8))
              have hB8 : BytesAt w8.heap.size w8 v8 (la ++ 59 :: 32 :: lb) := BytesAt.of_owns (l := la ++ 59 :: 32 :: lb) (m := 0 + la.length + (⟨#[59, 32]⟩ : ByteArray).size + lb.length) (by simpa [ubytes, strCells_ubytes] using o8) (by show 0 + la.length + 2 + lb.length = _; simp; omega)
              have h9 := ofB_any v8 (la ++ 59 :: 32 :: lb) w8 hB8 (T5.next b8) (by simp; omega)
              rw [htk] at h9
              clear o6 g6 o7 g7 n7 o8 g8 hB8 b6 b7 s6 s7 A5 B5
              refine h9.mono ?_
              clear h9
              rintro e w9 ⟨v9, rfl, r9, b9⟩
              have b59 := b8.trans (b9.mono b8.size)
              replace r4 := owns_below r4 b59
              replace r5 := owns_below r5 b59
              have hx : (tksOf (la ++ [59])).length ≤ 501 := by have := tksOf_len (la ++ [59]); simp at this; omega
              have hy : (tksOf lb).length ≤ 500 := by have := tksOf_len lb; omega
              generalize tksOf (la ++ [59]) = tx at *
              generalize tksOf lb = ty at *
              go_wp2_with (first
                | (at_builtin; refine wpList_append_src _ rfl _ _ 28 rfl w9.heap.size 31 i5 (.agg #[.int .i64 0, .string ⟨#[]⟩, .int .i64 0, .bool false, .int .i64 0]) 5 48 Tryd.underlying28 hi5 hy0 hy1 hy2 rfl (by decide) (.slice none 0 0) 0 [] rfl (World.ownsRow_nil _ _ _ _) _ tx.length (tksCells tx) rfl (by rw [tksCells_length]) (TksAt.src r4) (tksCells_one tx) (by unfold maxLen; omega) (by omega) (Nat.le_refl _) ?_; intro v10 w10 o10 g10; have s10 := g10.size; have b10 : Below w9.heap.size w9 w10 := below_of_still g10 _ (Nat.le_refl _) (row := none) rfl)
                | (at_builtin; refine wpList_append_own _ rfl _ _ 28 rfl w9.heap.size 31 i5 (.agg #[.int .i64 0, .string ⟨#[]⟩, .int .i64 0, .bool false, .int .i64 0]) 5 48 Tryd.underlying28 hi5 hy0 hy1 hy2 rfl (by decide) _ _ _ rfl (o10.alloc _) ⟨w10.heap.size, 0, none⟩ 1 1 (tkCells ⟨9, [], 0, false, 0⟩) rfl rfl (cells_new _ (tkCells ⟨9, [], 0, false, 0⟩) _) (fun u hu => by simp [tkCells] at hu; rcases hu with rfl | rfl | rfl | rfl | rfl <;> rfl) (by unfold maxLen; omega) (by omega) (by simp; omega) ?_; intro v11 w11 o11 g11 n11; have b11 : Below w9.heap.size w9 w11 := below_app (b10.alloc s10 _) (by simp; omega) (o10.alloc _) g11; have s11 := b11.size)
                | (at_builtin; refine wpList_append_src _ rfl _ _ 28 rfl w9.heap.size 31 i5 (.agg #[.int .i64 0, .string ⟨#[]⟩, .int .i64 0, .bool false, .int .i64 0]) 5 48 Tryd.underlying28 hi5 hy0 hy1 hy2 rfl (by decide) v11 _ _ rfl o11 _ ty.length (tksCells ty) rfl (by rw [tksCells_length]) (TksAt.src (owns_below r5 b11)) (tksCells_one ty) (by unfold maxLen; omega) (by omega) s11 ?_; intro v12 w12 o12 g12; have b12 : Below w9.heap.size w9 w12 := below_app b11 s11 o11 g12))
              have o13 : w12.ownsRow w9.heap.size 31 5 v12 (tx ++ ⟨9, [], 0, false, 0⟩ :: ty).length (tksCells (tx ++ ⟨9, [], 0, false, 0⟩ :: ty)) := by
                have e1 : tksCells (tx ++ ⟨9, [], 0, false, 0⟩ :: ty) = [] ++ tksCells tx ++ tkCells ⟨9, [], 0, false, 0⟩ ++ tksCells ty := by simp [tksCells]
                have e2 : (tx ++ (⟨9, [], 0, false, 0⟩ : Tk) :: ty).length = 0 + tx.length + 1 + ty.length := by simp; omega
                rw [e1, e2]
                exact o12
              have h14 := sameToks_yes v9 v12 (tx ++ ⟨9, [], 0, false, 0⟩ :: ty) w12 (TksAt.of_owns (owns_below r9 b12)) (TksAt.of_owns o13) (by simp; omega)
              clear o10 g10 o11 g11 n11 o12 g12 o13 r4 r5 r9
              refine h14.mono ?_
              clear h14
              rintro e w14 ⟨rfl, b14⟩
              have bz := ((b15.trans (b59.mono b15.size)).trans (b12.mono (Nat.le_trans b15.size b59.size))).trans (b14.mono (Nat.le_trans b15.size (Nat.le_trans b59.size b12.size)))
              go_wp2
              go_ret
              exact ⟨rfl, b1.trans (bz.mono b1.size)⟩
          · obtain ⟨bk, off, rfl, c0, hl0⟩ := hcb u hu
            clear hcb A1 B1 T1 hu hok
            rcases hw with e | e | e | e | e
            all_goals
              rw [e] at c0
              go_wp2
              go_ret
              exact ⟨rfl, b1⟩
  · by_cases h1 : (500 : Int) < (la.length : Int)
    · go_enter Tryd.func5, Tryd.ntmps5
      go_wp2_with fail
      refine h0.mono ?_
      clear h0
      rintro e w1 ⟨rfl, b1⟩
      go_wp2
      go_ret
      exact ⟨rfl, b1⟩
    · have h2 : (500 : Int) < (lb.length : Int) := by omega
      go_enter Tryd.func5, Tryd.ntmps5
      go_wp2_with fail
      refine h0.mono ?_
      clear h0
      rintro e w1 ⟨rfl, b1⟩
      go_wp2
      go_ret
      exact ⟨rfl, b1⟩

theorem tokParts_met (os : Os) : laidMet Tryd.prog Rows.tokPartsRow.laid ((laidIn (World.holding Tryd.prog os ⟨#[], #[], []⟩)).forCall (fun _ _ => 0) ⟨#[], #[.slice none 0 0, .slice none 0 0], []⟩).memory :=
  laidMet_of_run' 8 (by kernel_rfl) (by kernel_rfl)
theorem tokParts_reads (os : Os) {H : Type} (enc : TypeId × Value → H) : ∃ places, DataW.whole enc Tryd.prog ((laidIn (World.holding Tryd.prog os ⟨#[], #[], []⟩)).forCall (fun _ _ => 0) ⟨#[], #[.slice none 0 0, .slice none 0 0], []⟩).memory Tryd.f5.params.toList Rows.tokPartsSpec.vars false (#[.slice none 0 0, .slice none 0 0] : Array Value).toList 8 = some ([.nil, .nil], [], places) :=
  ⟨[], by kernel_rfl⟩

set_option maxRecDepth 100000 in
theorem tokParts_lifted (os : Os) (started : os.Started) (H : Type) (enc : TypeId × Value → H) (F : Stop.Interp) :
    ReturnsInHanded {} Tryd.checked os 5 .any ((OpenSpec.ofChange Rows.tokPartsSpec).preRow enc Tryd.prog Tryd.f5 Rows.tokPartsRow.domain false Rows.tokPartsRow.laid) (((OpenSpec.ofChange Rows.tokPartsSpec).at F).post enc Tryd.prog Tryd.f5 false true false false) := by
  obtain ⟨places, hx⟩ := tokParts_reads os enc
  refine returnsInHanded_of_row (C := Tryd.checked) (s := OpenSpec.ofChange Rows.tokPartsSpec) ownNone started (by kernel_rfl) Tryd.func5
    (witness_row_at (enc := enc) (C := Tryd.checked) false (laidIn (World.holding Tryd.prog os ⟨#[], #[], []⟩)) #[.slice none 0 0, .slice none 0 0] rfl (by kernel_rfl) (by kernel_rfl) (by kernel_rfl)
      (OpenSpec.preRow_of_cond 8 hx (by kernel_rfl) (fun k hk => by cases hk) (by kernel_rfl) (tokParts_met os))) ?_
  intro W base args ds gs before hval hW _ _ _ hL hS _
  have hW' := hW
  obtain ⟨p, q, hA0, hV, rfl, hfz, hnd⟩ := hW
  have hA : DataW.TrodAll enc Tryd.prog W 0 (fun _ => true) true Tryd.f5.params.toList args.toList ds p := hA0
  rw [Tryd.params5] at hA hval
  obtain ⟨v0, vs0, d0, ds0, p0, q0, hargs, rfl, rfl, h0, r0⟩ := trodAll_cons hA
  obtain ⟨v1, vs1, d1, ds1, p1, q1, rfl, rfl, rfl, h1, r1⟩ := trodAll_cons r0
  obtain ⟨rfl, rfl, rfl⟩ := trodAll_nil r1
  obtain rfl : args = #[v0, v1] := by cases args; simp_all
  obtain ⟨rfl, rfl⟩ := trodVars_none hV
  obtain ⟨a0, len0, cap0, rfl⟩ := okWide_slice Tryd.underlying24 (hval 0 24 v0 rfl rfl)
  have k0 := h0
  have lt0 : ∀ x ∈ p0, x.block < W.heap.size := by obtain ⟨m, hm⟩ := k0; exact DataW.trod_lt m _ _ _ hm
  obtain ⟨z0, w0⟩ := bytesAt_of_reads k0
  obtain ⟨a1, len1, cap1, rfl⟩ := okWide_slice Tryd.underlying24 (hval 1 24 v1 rfl rfl)
  have k1 := h1
  have lt1 : ∀ x ∈ p1, x.block < W.heap.size := by obtain ⟨m, hm⟩ := k1; exact DataW.trod_lt m _ _ _ hm
  obtain ⟨z1, w1⟩ := bytesAt_of_reads k1
  clear hA0
  refine (tokParts_walk W (tabs_of_laid hL hS) _ z0 w0 _ z1 w1).mono fun e W' ⟨he, bel⟩ => ?_
  subst he
  exact ⟨_, rfl, _, _, _, [], _, [], hW', trodAll_mk1 (shut_bool Tryd.underlying4 _), (trodAll_cons_mk (Below.trod laidOut (by kernel_rfl) (of_decide_eq_true (by kernel_rfl)) k0 bel lt0) (trodAll_cons_mk (Below.trod laidOut (by kernel_rfl) (of_decide_eq_true (by kernel_rfl)) k1 bel lt1) trodAll_mk0)), rfl, bel.frame _, fun h => by cases h⟩

theorem tokParts_said : Rows.TokPartsSaid :=
  OpenClaim.holds_of_cond 5 Tryd.f5 rfl rfl rfl rfl rfl rfl rfl ⟨rfl, rfl, rfl, rfl, rfl⟩ rfl rfl rfl rfl rfl (by kernel_rfl) Tryd.func5 (by kernel_rfl)
    (of_decide_eq_true (by kernel_rfl)) (by unfold Func.isWrapper; first | (rw [if_pos (by decide +kernel)]; kernel_rfl) | (rw [if_neg (by decide +kernel)]; exact ⟨rfl, rfl⟩))
    (fun os started H enc _ F => by rw [OpenClaim.pre_eq_preRow]; exact tokParts_lifted os started H enc F)

theorem tokParts_plain (f : FuncId) (fn : Func) (hf : Tryd.pinned.checked.prog.funcNamed "tapestrier/tapestrierlaw4.TokParts" = some f) (hfn : Tryd.pinned.checked.prog.funcs[f]? = some fn) :
    false = Tryd.pinned.checked.prog.looks [] ∧ ∀ (j : Nat) t, fn.params[j]? = some t → Tryd.pinned.checked.prog.wantsStandIn t = false := by
  obtain rfl : f = 5 := Option.some.inj ((show Tryd.prog.funcNamed "tapestrier/tapestrierlaw4.TokParts" = some 5 by kernel_rfl).symm.trans hf) |>.symm
  obtain rfl : fn = Tryd.f5 := (Option.some.inj (Tryd.func5.symm.trans hfn)).symm
  refine ⟨by kernel_rfl, fun j t ht => ?_⟩
  rw [Tryd.params5] at ht
  have hm : t ∈ [24] := by simpa using Array.mem_of_getElem? ht
  have hall : ([24].all fun u => !Tryd.prog.wantsStandIn u) = true := by kernel_rfl
  exact (show Tryd.prog.wantsStandIn t = false by simpa using List.all_eq_true.1 hall t hm)

theorem tokParts_card : Rows.TokPartsCardSaid :=
  Claim7.holds_tied_plain_at .later [] _ _ _ _ tokParts_said (fun _ h => by cases h) (by kernel_rfl) (fun _ h => by cases h) tokParts_row_tie rfl ⟨rfl, rfl⟩ (by kernel_rfl) rfl tokParts_plain (by kernel_rfl)
#print axioms tokParts_card

end Go.Proofs.YtaecamnlimlpkabDoor
