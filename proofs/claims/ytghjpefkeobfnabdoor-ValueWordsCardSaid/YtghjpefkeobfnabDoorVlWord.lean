/- package value: word, over the table that its text lays; color, at every string. -/
import Derived.Test.YtghjpefkeobfnabDoorVlCut
namespace Go.Proofs.YtghjpefkeobfnabDoor.Vl
open Go Go.RowKit

def wordCells (r : Int × List UInt8 × Int × Int) : List Value := [.int .i64 r.1, .string ⟨r.2.1.toArray⟩, .int .i64 r.2.2.1, .int .i64 r.2.2.2]
/-- The table of words as it lies. -/
def wordRow : Array Value := (wordsT.flatMap wordCells).toArray
def WordsAt (n₀ : Nat) (W : World) : Prop := 1 < n₀ ∧ ∃ t fr, W.heap[(1 : Nat)]? = some (.cells wordRow t fr)
theorem WordsAt.below {n₀ : Nat} {X Y : World} (h : WordsAt n₀ X) (hb : Below n₀ X Y) : WordsAt n₀ Y := ⟨h.1, h.2.elim fun t h2 => h2.elim fun fr h3 => ⟨t, fr, (hb.block _ h.1).trans h3⟩⟩
theorem WordsAt.mono {n₀ n₁ : Nat} {X : World} (h : WordsAt n₀ X) (hn : n₀ ≤ n₁) : WordsAt n₁ X := ⟨Nat.lt_of_lt_of_le h.1 hn, h.2⟩
theorem WordsAt.next {X Y : World} (h : WordsAt X.heap.size X) (hb : Below X.heap.size X Y) : WordsAt Y.heap.size Y := (h.below hb).mono hb.size

theorem infoWords : (Tryd.prog.info? 55).map (·.size) = some 64 := by kernel_rfl
theorem word_at (w : World) : ∀ (k : Nat) (r : Int × List UInt8 × Int × Int), wordsT[k]? = some r →
    (Instr.index 55 (.agg wordRow) (.int .i64 k)).run Tryd.prog w = .ok (.agg (wordCells r).toArray) w
  | 0, _, h => by cases h; kernel_rfl
  | 1, _, h => by cases h; kernel_rfl
  | 2, _, h => by cases h; kernel_rfl
  | 3, _, h => by cases h; kernel_rfl
  | 4, _, h => by cases h; kernel_rfl
  | 5, _, h => by cases h; kernel_rfl
  | 6, _, h => by cases h; kernel_rfl
  | 7, _, h => by cases h; kernel_rfl
  | 8, _, h => by cases h; kernel_rfl
  | 9, _, h => by cases h; kernel_rfl
  | 10, _, h => by cases h; kernel_rfl
  | 11, _, h => by cases h; kernel_rfl
  | 12, _, h => by cases h; kernel_rfl
  | 13, _, h => by cases h; kernel_rfl
  | 14, _, h => by cases h; kernel_rfl
  | 15, _, h => by cases h; kernel_rfl
  | k + 16, _, h => by simp [wordsT] at h
theorem wordL_step {k : Nat} {r : Int × List UInt8 × Int × Int} {p : Int} {s : List UInt8} (hr : wordsT[k]? = some r) : wordL (wordsT.drop k) p s = if hits r p s then (r.2.2.1, r.2.2.2, true) else wordL (wordsT.drop (k + 1)) p s := by
  obtain ⟨hk, rfl⟩ := List.getElem?_eq_some_iff.1 hr
  rw [List.drop_eq_getElem_cons hk]
  rfl

theorem beq_false {a b : ByteArray} (h : ¬ a = b) : (a.toList == b.toList) = false := by
  rw [ByteArray.toList_eq, ByteArray.toList_eq, beq_eq_false_iff_ne]
  intro e
  exact h (ByteArray.ext (Array.toList_inj.1 e))

set_option maxRecDepth 100000 in
set_option maxHeartbeats 4000000 in
theorem word_any (p : Int) (s : ByteArray) (w : World) (hS : WordsAt w.heap.size w) :
    Calls Tryd.prog 13 #[.int .i64 p, .string s] w fun e w' => e = ret (wordV p s.data.toList) ∧ Below w.heap.size w w' := by
  obtain ⟨hlt, t0, fr0, hrow⟩ := hS
  have b0 := zero_new w
  have k0 := Blk.new w 26 [.int .i64 0, .int .i64 0]
  replace hrow := (b0.block _ hlt).trans hrow
  obtain ⟨V, hV⟩ : ∃ V, wordV p s.data.toList = V := ⟨_, rfl⟩
  rw [hV]
  unfold wordV at hV
  go_enter Tryd.func13, Tryd.ntmps13
  go_upto_region 1 with fail
  replace k0 : Blk (w.alloc (.cells #[.int .i64 0, .int .i64 0] 26)) w.heap.size _ _ := k0
  generalize w.alloc (.cells #[.int .i64 0, .int .i64 0] 26) = W at *
  have hB := k0.lt
  refine wp_region_lit ?_
  refine wpList_load_row rfl 55 _ rfl 1 rfl t0 wordRow fr0 _ hrow Tryd.underlying55 rfl infoWords ?_
  clear hrow
  have hat := word_at
  generalize Value.agg wordRow = row at *
  have HA : Hid (∀ (w : World) (k : Nat) (r : Int × List UInt8 × Int × Int), wordsT[k]? = some r → (Instr.index 55 row (.int .i64 k)).run Tryd.prog w = .ok (.agg (wordCells r).toArray) w) := hat
  clear hat
  go_wp2
  go_loopw [9] (fun i wr => ∃ k : Nat, i = .int .i64 k ∧ k ≤ 16 ∧ Hid (wordL (wordsT.drop k) p s.data.toList = V) ∧ Below w.heap.size w wr ∧ Blk wr w.heap.size 26 [.int .i64 0, .int .i64 0]) (fun i _ => 16 - (intOf i).toNat)
  case atStart => exact ⟨0, rfl, by omega, hV, b0, k0⟩
  case round =>
    obtain ⟨k, rfl, hk, HV, hb, hk0⟩ := hrel
    clear hV k0
    have hsz := hb.size
    by_cases hlt : k < 16
    · obtain ⟨r, hr⟩ : ∃ r, wordsT[k]? = some r := ⟨_, List.getElem?_eq_getElem (show k < wordsT.length from hlt)⟩
      have hi := (show ∀ (w : World) (k : Nat) (r : Int × List UInt8 × Int × Int), wordsT[k]? = some r → (Instr.index 55 row (.int .i64 k)).run Tryd.prog w = .ok (.agg (wordCells r).toArray) w from HA) wr k r hr
      have hstep := wordL_step (p := p) (s := s.data.toList) hr
      rw [show wordL (wordsT.drop k) p s.data.toList = V from HV] at hstep
      clear HA HV hr
      obtain ⟨q, x, kd, n⟩ := r
      simp only [wordCells] at hi
      have hxe : (⟨x.toArray⟩ : ByteArray) = s ↔ x = s.data.toList := ⟨fun e => by rw [← e], fun e => by rw [e]⟩
      generalize (⟨x.toArray⟩ : ByteArray) = xs at hi hxe
      have bX : Below wr.heap.size wr (wr.alloc (.cells #[.int .i64 q, .string xs, .int .i64 kd, .int .i64 n] 54)) := (Below.refl _ _).alloc (Nat.le_refl _) _
      have hB' := hk0.lt
      have kX := hk0.below bX hB'
      obtain ⟨⟨c0, c1⟩, f0, f1⟩ := blk2 hk0
      have HF : Hid (∀ a b o, Below w.heap.size w ((set2 wr w.heap.size a b).alloc o)) := fun a b o => (below_grown hb (grown_set2 _ w.heap.size a b) (by omega) (Nat.le_refl _)).alloc (Nat.le_trans hsz (grown_set2 wr w.heap.size a b).size) _
      have hki : (k : Int) < 16 := by omega
      have HN : hits (q, x, kd, n) p s.data.toList = false → Hid (wordL (wordsT.drop (k + 1)) p s.data.toList = V) := fun e => by
        rw [hstep, e]
        rfl
      have HY : hits (q, x, kd, n) p s.data.toList = true → (kd, n, true) = V := fun e => by
        rw [hstep, e]
        rfl
      clear hstep
      have bwX := below_next hb bX
      by_cases hx : xs = s
      · subst hx
        have hx' := hxe.1 rfl
        by_cases hq : q = p
        · subst hq
          obtain rfl := HY (by simp [hits, hx'])
          clear HN HY hxe hx'
          go_wp2
          refine bodyPost_ret (results_struct_tmp rfl _ _ w.heap.size _ rfl (load_val ((blk_set2 hk0 _ _).kept (World.grownBy_alloc _ _ none) (by simp)))) rfl ?_
          exact ⟨rfl, HF _ _ _⟩
        · have eq : (q == p) = false := by simpa using hq
          by_cases hq1 : q = -1
          · subst hq1
            obtain rfl := HY (by simp [hits, hx'])
            clear HN HY hxe hx' hq
            go_wp2
            refine bodyPost_ret (results_struct_tmp rfl _ _ w.heap.size _ rfl (load_val ((blk_set2 hk0 _ _).kept (World.grownBy_alloc _ _ none) (by simp)))) rfl ?_
            exact ⟨rfl, HF _ _ _⟩
          · have eq1 : (q == -1) = false := by simpa using hq1
            have HN' := HN (by simp [hits, hq, hq1])
            clear HN HY hxe hx' hq hq1
            go_wp2
            exact ⟨⟨k + 1, by go_num, by omega, HN', bwX, kX⟩, by simp [intOf]; omega⟩
      · have hx' : ¬ x = s.data.toList := fun e => hx (hxe.2 e)
        have HN' := HN (by simp [hits, hx'])
        clear HN HY hxe hx'
        have ex : (xs.toList == s.toList) = false := beq_false hx
        by_cases hq : q = p
        · subst hq
          go_wp2
          exact ⟨⟨k + 1, by go_num, by omega, HN', bwX, kX⟩, by simp [intOf]; omega⟩
        · have eq : (q == p) = false := by simpa using hq
          by_cases hq1 : q = -1
          · subst hq1
            clear hq
            go_wp2
            exact ⟨⟨k + 1, by go_num, by omega, HN', bwX, kX⟩, by simp [intOf]; omega⟩
          · have eq1 : (q == -1) = false := by simpa using hq1
            clear hq hq1
            go_wp2
            exact ⟨⟨k + 1, by go_num, by omega, HN', bwX, kX⟩, by simp [intOf]; omega⟩
    · have hki : ¬ (k : Int) < 16 := by omega
      obtain rfl : k = 16 := by omega
      obtain rfl : no = V := HV
      obtain ⟨⟨c0, c1⟩, f0, f1⟩ := blk2 hk0
      clear HA
      go_wp2
      refine bodyPost_ret (results_struct_tmp rfl _ _ w.heap.size _ rfl (load_val (blk_set2 hk0 _ _))) rfl ?_
      exact ⟨rfl, below_grown hb (grown_set2 _ w.heap.size _ _) (by omega) (Nat.le_refl _)⟩

/-! ### the table of properties -/
def propsT : List (List UInt8 × Bool × Int) :=
  [([99, 111, 108, 111, 114], true, 0), ([102, 111, 110, 116, 45, 115, 105, 122, 101], true, 16000), ([116, 101, 120, 116, 45, 97, 108, 105, 103, 110], true, 0), ([100, 105, 115, 112, 108, 97, 121], false, 2),
   ([119, 105, 100, 116, 104], false, -1), ([109, 97, 114, 103, 105, 110], false, 0), ([111, 112, 97, 99, 105, 116, 121], false, 1000), ([122, 45, 105, 110, 100, 101, 120], false, 1099511627776)]
def propCells (r : List UInt8 × Bool × Int) : List Value := [.string ⟨r.1.toArray⟩, .bool r.2.1, .int .i64 r.2.2]
def propRow : Array Value := (propsT.flatMap propCells).toArray
def PropsAt (n₀ : Nat) (W : World) : Prop := 0 < n₀ ∧ ∃ t fr, W.heap[(0 : Nat)]? = some (.cells propRow t fr)
theorem PropsAt.below {n₀ : Nat} {X Y : World} (h : PropsAt n₀ X) (hb : Below n₀ X Y) : PropsAt n₀ Y := ⟨h.1, h.2.elim fun t h2 => h2.elim fun fr h3 => ⟨t, fr, (hb.block _ h.1).trans h3⟩⟩
theorem PropsAt.mono {n₀ n₁ : Nat} {X : World} (h : PropsAt n₀ X) (hn : n₀ ≤ n₁) : PropsAt n₁ X := ⟨Nat.lt_of_lt_of_le h.1 hn, h.2⟩
theorem PropsAt.next {X Y : World} (h : PropsAt X.heap.size X) (hb : Below X.heap.size X Y) : PropsAt Y.heap.size Y := (h.below hb).mono hb.size
/-- A property's three cells. -/
theorem PropsAt.cells {n₀ : Nat} {X : World} (h : PropsAt n₀ X) : ∀ (k : Nat) (r : List UInt8 × Bool × Int), propsT[k]? = some r →
    X.cell? ⟨0, k * 3, none⟩ = some (.string ⟨r.1.toArray⟩) ∧ X.cell? ⟨0, k * 3 + 1, none⟩ = some (.bool r.2.1) ∧ X.cell? ⟨0, k * 3 + 2, none⟩ = some (.int .i64 r.2.2) := by
  obtain ⟨_, t, fr, hr⟩ := h
  intro k r hk
  rw [cell_of_block hr, cell_of_block hr, cell_of_block hr]
  match k, hk with
  | 0, hk => cases hk; exact ⟨rfl, rfl, rfl⟩
  | 1, hk => cases hk; exact ⟨rfl, rfl, rfl⟩
  | 2, hk => cases hk; exact ⟨rfl, rfl, rfl⟩
  | 3, hk => cases hk; exact ⟨rfl, rfl, rfl⟩
  | 4, hk => cases hk; exact ⟨rfl, rfl, rfl⟩
  | 5, hk => cases hk; exact ⟨rfl, rfl, rfl⟩
  | 6, hk => cases hk; exact ⟨rfl, rfl, rfl⟩
  | 7, hk => cases hk; exact ⟨rfl, rfl, rfl⟩
  | k + 8, hk => simp [propsT] at hk
/-- Both tables. -/
def Tabs7 (n₀ : Nat) (W : World) : Prop := WordsAt n₀ W ∧ PropsAt n₀ W
theorem Tabs7.next {X Y : World} (h : Tabs7 X.heap.size X) (hb : Below X.heap.size X Y) : Tabs7 Y.heap.size Y := ⟨h.1.next hb, h.2.next hb⟩

end Go.Proofs.YtghjpefkeobfnabDoor.Vl
