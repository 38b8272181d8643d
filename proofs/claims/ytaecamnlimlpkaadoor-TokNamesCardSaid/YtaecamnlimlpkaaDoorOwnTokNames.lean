/- For all strings and integers: the law tapestrierlaw4.TokNames returns true and leaves its arguments as they were; conditions: the tables hold what their texts lay (the card ties them to the program's text). -/
import Derived.Test.YtaecamnlimlpkaaDoorTkLays
import Derived.Deep.RegionHeld
namespace Go.Proofs.YtaecamnlimlpkaaDoor
open Go Go.ChangeShapes Go.WideShapes Go.ChangeAt Go.RowKit
open Go.ChangeMaps (open_string shut_string)

def isLet (u : UInt8) : Prop := (97 ≤ u.toNat ∧ u.toNat ≤ 122) ∨ (65 ≤ u.toNat ∧ u.toNat ≤ 90)
/-- What the laws' own name says. -/
def NameSays (s : ByteArray) (w : World) (e : Ending) (w' : World) : Prop := ∃ b : Bool, e = .returned (.bool b) ∧ (b = true → (∀ u ∈ s.data.toList, isLet u) ∧ 0 < s.size ∧ s.size < 60) ∧ w' = w
theorem NameSays.no (s : ByteArray) (w : World) : NameSays s w (.returned (.bool false)) w := ⟨false, rfl, (fun h => by cases h), rfl⟩
set_option maxRecDepth 100000 in
set_option maxHeartbeats 2000000 in
/-- The laws' own name. -/
theorem lawName_any (s : ByteArray) (w : World) (hs : s.size ≤ maxLen) :
    Calls Tryd.prog 8 #[.string s] w fun e w' => NameSays s w e w' := by
  unfold maxLen at hs
  go_enter Tryd.func8, Tryd.ntmps8
  go_wp2
  go_loopw [3] (fun i wr => ∃ k : Nat, i = .int .i64 k ∧ k ≤ s.size ∧ wr = w ∧ ∀ j, j < k → isLet (s.get! j)) (fun i _ => s.size - (intOf i).toNat)
  case atStart => exact ⟨0, rfl, Nat.zero_le _, rfl, fun j hj => absurd hj (Nat.not_lt_zero j)⟩
  case round =>
    obtain ⟨k, rfl, hk, rfl, hall⟩ := hrel
    by_cases hlt : k < s.size
    · have hnext : isLet (s.get! k) → ∀ j, j < k + 1 → isLet (s.get! j) := fun hd j hj => by
        by_cases e : j = k
        · subst e; exact hd
        · exact hall j (by omega)
      have hget := Nm.get_at s k hlt
      clear hall
      generalize s.get! k = c at *
      by_cases hc : isLet c
      · replace hnext := hnext hc
        have hc0 := hc
        unfold isLet at hc
        clear hc0
        rcases hc with ⟨h1, h2⟩ | ⟨h1, h2⟩
        · have g1 : (97 : Int) ≤ (c.toNat : Int) := by omega
          have g2 : (c.toNat : Int) ≤ 122 := by omega
          go_wp2
          exact ⟨⟨k + 1, by go_num, by omega, trivial, hnext⟩, by simp [intOf]; omega⟩
        · have g1 : ¬ (97 : Int) ≤ (c.toNat : Int) := by omega
          have g2 : (c.toNat : Int) ≤ 90 := by omega
          have g3 : (65 : Int) ≤ (c.toNat : Int) := by omega
          go_wp2
          exact ⟨⟨k + 1, by go_num, by omega, trivial, hnext⟩, by simp [intOf]; omega⟩
      · clear hnext
        unfold isLet at hc
        obtain h1 | h1 | h1 : 123 ≤ c.toNat ∨ (91 ≤ c.toNat ∧ c.toNat ≤ 96) ∨ c.toNat ≤ 64 := by omega
        · have g1 : (97 : Int) ≤ (c.toNat : Int) := by omega
          have g2 : ¬ (c.toNat : Int) ≤ 122 := by omega
          have g3 : (65 : Int) ≤ (c.toNat : Int) := by omega
          have g4 : ¬ (c.toNat : Int) ≤ 90 := by omega
          clear hc h1
          go_wp2
          go_ret
          exact NameSays.no s _
        · have g1 : ¬ (97 : Int) ≤ (c.toNat : Int) := by omega
          have g3 : (65 : Int) ≤ (c.toNat : Int) := by omega
          have g4 : ¬ (c.toNat : Int) ≤ 90 := by omega
          clear hc h1
          go_wp2
          go_ret
          exact NameSays.no s _
        · have g1 : ¬ (97 : Int) ≤ (c.toNat : Int) := by omega
          have g3 : ¬ (65 : Int) ≤ (c.toNat : Int) := by omega
          clear hc h1
          go_wp2
          go_ret
          exact NameSays.no s _
    · have hke : k = s.size := by omega
      subst hke
      have hal : ∀ u ∈ s.data.toList, isLet u := by
        intro u hu
        obtain ⟨j, hj, rfl⟩ := List.mem_iff_getElem.1 hu
        have hj' : j < s.size := by rw [← Nm.len_list]; exact hj
        have e := Nm.at_list s j hj'
        rw [List.getElem?_eq_getElem hj] at e
        rw [Option.some.inj e]
        exact hall j hj'
      clear hall
      go_wp2
      all_goals go_ret
      · exact NameSays.no s _
      · refine ⟨_, rfl, fun h => ?_, rfl⟩
        rw [Nm.empty_list, Bool.and_eq_true] at h
        refine ⟨hal, ?_, ?_⟩
        · have h1 := h.1
          rw [← Nm.len_list]
          cases e : s.data.toList with
          | nil => rw [e] at h1; cases h1
          | cons x r => simp
        · have := of_decide_eq_true h.2
          omega

theorem let_ints {l : List UInt8} (h : ∀ u ∈ l, isLet u) : (ints l).all letter = true := by
  rw [List.all_eq_true]
  intro c hc
  obtain ⟨u, hu, rfl⟩ := List.mem_map.1 hc
  have := h u hu
  unfold isLet at this
  exact letter_iff.2 (by omega)
theorem let_plain {l x : List UInt8} (h : ∀ u ∈ l, isLet u) (y : List UInt8) (hx : ∀ u ∈ x, u.toNat < 128 ∧ u.toNat ≠ 13 ∧ u.toNat ≠ 12 ∧ u.toNat ≠ 0) (hy : ∀ u ∈ y, u.toNat < 128 ∧ u.toNat ≠ 13 ∧ u.toNat ≠ 12 ∧ u.toNat ≠ 0) : tksOf (x ++ l ++ y) = toks nvOf (ints x ++ ints l ++ ints y) := by
  unfold tksOf
  rw [prep_ints, ints_append, ints_append]
  intro u hu
  rw [List.mem_append, List.mem_append] at hu
  rcases hu with (hu | hu) | hu
  · exact hx u hu
  · have := h u hu; unfold isLet at this; omega
  · exact hy u hu
theorem nv_three : nvOf [51] = 3000 := by decide +kernel

/-- What stands ahead, behind, and what comes out, of each kind. -/
structure NameKind (s : ByteArray) (A B : ByteArray) (ts : List Tk) : Prop where
  out : tksOf (A ++ s ++ B).data.toList = ts
  short : A.size ≤ 2 ∧ B.size ≤ 2 ∧ ts.length ≤ 2
theorem name_kinds {s : ByteArray} (h : ∀ u ∈ s.data.toList, isLet u) (h0 : 0 < s.size) :
    NameKind s ⟨#[]⟩ ⟨#[]⟩ [⟨1, ints s.data.toList, 0, false, 0⟩] ∧ NameKind s ⟨#[64]⟩ ⟨#[]⟩ [⟨2, ints s.data.toList, 0, false, 0⟩] ∧ NameKind s ⟨#[35]⟩ ⟨#[]⟩ [⟨3, ints s.data.toList, 0, false, 0⟩]
    ∧ NameKind s ⟨#[]⟩ ⟨#[40]⟩ [⟨20, ints s.data.toList, 0, false, 0⟩] ∧ NameKind s ⟨#[45]⟩ ⟨#[]⟩ [⟨1, 45 :: ints s.data.toList, 0, false, 0⟩] ∧ NameKind s ⟨#[45, 45]⟩ ⟨#[]⟩ [⟨1, 45 :: 45 :: ints s.data.toList, 0, false, 0⟩]
    ∧ NameKind s ⟨#[46]⟩ ⟨#[]⟩ [⟨10, [], 0, false, 46⟩, ⟨1, ints s.data.toList, 0, false, 0⟩] ∧ NameKind s ⟨#[51]⟩ ⟨#[]⟩ [⟨8, ints s.data.toList, 3000, false, 0⟩] := by
  have hi := let_ints h
  have hne : ints s.data.toList ≠ [] := fun e => by
    have h1 : s.size = 0 := by
      have := congrArg List.length e
      rwa [ints_length, Nm.len_list] at this
    omega
  have key : ∀ A B : ByteArray, (∀ u ∈ A.data.toList, u.toNat < 128 ∧ u.toNat ≠ 13 ∧ u.toNat ≠ 12 ∧ u.toNat ≠ 0) → (∀ u ∈ B.data.toList, u.toNat < 128 ∧ u.toNat ≠ 13 ∧ u.toNat ≠ 12 ∧ u.toNat ≠ 0) → tksOf (A ++ s ++ B).data.toList = toks nvOf (ints A.data.toList ++ ints s.data.toList ++ ints B.data.toList) := fun A B hA hB => by
    rw [show (A ++ s ++ B).data.toList = A.data.toList ++ s.data.toList ++ B.data.toList by simp [ByteArray.data_append]]
    exact let_plain h _ hA hB
  obtain ⟨c, l, e⟩ := List.exists_cons_of_ne_nil hne
  rw [e] at hi key ⊢
  obtain ⟨k1, k2, k3, k4, k5, k6, k7, k8⟩ := toks_names nvOf hi
  rw [nv_three] at k8
  refine ⟨⟨?_, by decide, by decide, by simp⟩, ⟨?_, by decide, by decide, by simp⟩, ⟨?_, by decide, by decide, by simp⟩, ⟨?_, by decide, by decide, by simp⟩, ⟨?_, by decide, by decide, by simp⟩, ⟨?_, by decide, by decide, by simp⟩, ⟨?_, by decide, by decide, by simp⟩, ⟨?_, by decide, by decide, by simp⟩⟩
  · rw [key _ _ (by simp) (by simp)]; simpa [ints] using k1
  · rw [key _ _ (by simp) (by simp)]; simpa [ints] using k2
  · rw [key _ _ (by simp) (by simp)]; simpa [ints] using k3
  · rw [key _ _ (by simp) (by simp)]; simpa [ints] using k4
  · rw [key _ _ (by simp) (by simp)]; simpa [ints] using k5
  · rw [key _ _ (by simp) (by simp)]; simpa [ints] using k6
  · rw [key _ _ (by simp) (by simp)]; simpa [ints] using k7
  · rw [key _ _ (by simp) (by simp)]; simpa [ints] using k8

/-- The blocks that the law lays. -/
def nameObjs (w : World) (s : ByteArray) : List Obj := [.cells #[.string ⟨#[]⟩, .string ⟨#[64]⟩, .string ⟨#[35]⟩, .string ⟨#[]⟩, .string ⟨#[45]⟩, .string ⟨#[45, 45]⟩, .string ⟨#[92]⟩, .string ⟨#[46]⟩, .string ⟨#[51]⟩] 9, .cells #[.string ⟨#[]⟩, .string ⟨#[]⟩, .string ⟨#[]⟩, .string ⟨#[40]⟩, .string ⟨#[]⟩, .string ⟨#[]⟩, .string ⟨#[]⟩, .string ⟨#[]⟩, .string ⟨#[]⟩] 9, .cells #[.int .i64 1, .string s, .int .i64 0, .bool false, .int .i64 0] 26, .cells #[.int .i64 2, .string s, .int .i64 0, .bool false, .int .i64 0] 26, .cells #[.int .i64 3, .string s, .int .i64 0, .bool false, .int .i64 0] 26, .cells #[.int .i64 20, .string s, .int .i64 0, .bool false, .int .i64 0] 26, .cells #[.int .i64 1, .string (⟨#[45]⟩ ++ s), .int .i64 0, .bool false, .int .i64 0] 26, .cells #[.int .i64 1, .string (⟨#[45, 45]⟩ ++ s), .int .i64 0, .bool false, .int .i64 0] 26, .cells #[.int .i64 10, .string ⟨#[]⟩, .int .i64 0, .bool false, .int .i64 46, .int .i64 1, .string s, .int .i64 0, .bool false, .int .i64 0] 26, .cells #[.int .i64 8, .string s, .int .i64 3000, .bool false, .int .i64 0] 26, .cells #[.slice (some ⟨w.heap.size + 2, 0, none⟩) 1 1, .slice (some ⟨w.heap.size + 3, 0, none⟩) 1 1, .slice (some ⟨w.heap.size + 4, 0, none⟩) 1 1, .slice (some ⟨w.heap.size + 5, 0, none⟩) 1 1, .slice (some ⟨w.heap.size + 6, 0, none⟩) 1 1, .slice (some ⟨w.heap.size + 7, 0, none⟩) 1 1, .slice none 0 0, .slice (some ⟨w.heap.size + 8, 0, none⟩) 2 2, .slice (some ⟨w.heap.size + 9, 0, none⟩) 1 1] 27]
/-- What is found there at the place j. -/
def NameAt (w W : World) (s : ByteArray) (j : Nat) : Prop := ∃ (A B : ByteArray) (bt : Nat) (ts : List Tk), W.cell? ⟨w.heap.size, j, none⟩ = some (.string A) ∧ W.cell? ⟨w.heap.size + 1, j, none⟩ = some (.string B) ∧ W.cell? ⟨w.heap.size + 10, j, none⟩ = some (.slice (some ⟨bt, 0, none⟩) ts.length ts.length) ∧ TksAt W.heap.size W (.slice (some ⟨bt, 0, none⟩) ts.length ts.length) ts ∧ NameKind s A B ts
theorem names_laid (w : World) {s : ByteArray} (h : ∀ u ∈ s.data.toList, isLet u) (h0 : 0 < s.size) : ∀ j, j < 9 → j ≠ 6 → NameAt w (lays w (nameObjs w s)) s j := by
  have hpl : ∀ u ∈ s.data.toList, u.toNat < 128 := fun u hu => by have := h u hu; unfold isLet at this; omega
  have x0 := txt_plain (s := s) rfl hpl
  have x1 : txtOf (45 :: ints s.data.toList) = ⟨#[45]⟩ ++ s := txt_plain (l := 45 :: s.data.toList) (by simp [ByteArray.data_append]) (fun u hu => (List.mem_cons.1 hu).elim (fun e => e ▸ (by decide)) (hpl u))
  have x2 : txtOf (45 :: 45 :: ints s.data.toList) = ⟨#[45, 45]⟩ ++ s := txt_plain (l := 45 :: 45 :: s.data.toList) (by simp [ByteArray.data_append]) (fun u hu => (List.mem_cons.1 hu).elim (fun e => e ▸ (by decide)) fun hu => (List.mem_cons.1 hu).elim (fun e => e ▸ (by decide)) (hpl u))
  obtain ⟨k1, k2, k3, k4, k5, k6, k7, k8⟩ := name_kinds h h0
  have ca := fun j => cell_of_block (lays_at (nameObjs w s) w 0 _ rfl) j
  have cb := fun j => cell_of_block (lays_at (nameObjs w s) w 1 _ rfl) j
  have cw := fun j => cell_of_block (lays_at (nameObjs w s) w 10 _ rfl) j
  have tk : ∀ (i : Nat) (ts : List Tk), ts.length ≤ 1000000 → (nameObjs w s)[i]? = some (.cells (tksCells ts).toArray 26) → TksAt (lays w (nameObjs w s)).heap.size (lays w (nameObjs w s)) (.slice (some ⟨w.heap.size + i, 0, none⟩) ts.length ts.length) ts := fun i ts hl hi => tks_block hl (lays_at _ w i _ hi)
  intro j hj h6
  obtain rfl | rfl | rfl | rfl | rfl | rfl | rfl | rfl : j = 0 ∨ j = 1 ∨ j = 2 ∨ j = 3 ∨ j = 4 ∨ j = 5 ∨ j = 7 ∨ j = 8 := by omega
  · exact ⟨_, _, w.heap.size + 2, [⟨1, ints s.data.toList, 0, false, 0⟩], ca 0, cb 0, cw 0, tk 2 _ (by simp) (by simp [nameObjs, tksCells, tkCells, x0]), k1⟩
  · exact ⟨_, _, w.heap.size + 3, [⟨2, ints s.data.toList, 0, false, 0⟩], ca 1, cb 1, cw 1, tk 3 _ (by simp) (by simp [nameObjs, tksCells, tkCells, x0]), k2⟩
  · exact ⟨_, _, w.heap.size + 4, [⟨3, ints s.data.toList, 0, false, 0⟩], ca 2, cb 2, cw 2, tk 4 _ (by simp) (by simp [nameObjs, tksCells, tkCells, x0]), k3⟩
  · exact ⟨_, _, w.heap.size + 5, [⟨20, ints s.data.toList, 0, false, 0⟩], ca 3, cb 3, cw 3, tk 5 _ (by simp) (by simp [nameObjs, tksCells, tkCells, x0]), k4⟩
  · exact ⟨_, _, w.heap.size + 6, [⟨1, 45 :: ints s.data.toList, 0, false, 0⟩], ca 4, cb 4, cw 4, tk 6 _ (by simp) (by simp [nameObjs, tksCells, tkCells, x1]), k5⟩
  · exact ⟨_, _, w.heap.size + 7, [⟨1, 45 :: 45 :: ints s.data.toList, 0, false, 0⟩], ca 5, cb 5, cw 5, tk 7 _ (by simp) (by simp [nameObjs, tksCells, tkCells, x2]), k6⟩
  · exact ⟨_, _, w.heap.size + 8, [⟨10, [], 0, false, 46⟩, ⟨1, ints s.data.toList, 0, false, 0⟩], ca 7, cb 7, cw 7, tk 8 _ (by simp) (by simp [nameObjs, tksCells, tkCells, x0, txtOf_nil]), k7⟩
  · exact ⟨_, _, w.heap.size + 9, [⟨8, ints s.data.toList, 3000, false, 0⟩], ca 8, cb 8, cw 8, tk 9 _ (by simp) (by simp [nameObjs, tksCells, tkCells, x0]), k8⟩

set_option maxRecDepth 100000 in
set_option maxHeartbeats 8000000 in
theorem tokNames_walk (w : World) (hT : LTabs w.heap.size w) (s : ByteArray) (hs : s.size ≤ maxLen) (which : Int) (_wf : (Lit.int .i64 which).wf = true) :
    Calls Tryd.prog 3 #[.string s, .int .i64 which] w fun e w' => e = .returned (.bool true) ∧ Below w.heap.size w w' := by
  have h0 := alive_any w hT
  have hn := fun w1 => lawName_any s w1 hs
  clear hs
  go_enter Tryd.func3, Tryd.ntmps3
  go_wp2_with fail
  refine h0.mono ?_
  clear h0
  rintro e w1 ⟨rfl, b1⟩
  have T1 := hT.next b1
  go_wp2_with fail
  refine (hn _).mono ?_
  clear hn
  rintro e w' ⟨b, rfl, hb, rfl⟩
  cases b with
  | false =>
    clear hb
    go_wp2
    go_ret
    exact ⟨rfl, b1⟩
  | true =>
    obtain ⟨hal, hs0, hs60⟩ := hb rfl
    clear hb
    have d1 : (⟨#[45]⟩ : ByteArray).size = 1 := rfl
    have d2 : (⟨#[45, 45]⟩ : ByteArray).size = 2 := rfl
    go_upto_region 8 with fail
    change Code.wp _ _ _ _ (lays w' (nameObjs w' s))
    have hall := names_laid w' hal hs0
    have bW := lays_below (nameObjs w' s) w'
    have hlt : w'.heap.size + 1 + 1 + 1 + 1 + 1 + 1 + 1 + 1 + 1 + 1 < (lays w' (nameObjs w' s)).heap.size := by
      rw [lays_size]
      exact Nat.lt_succ_self _
    generalize lays w' (nameObjs w' s) = W at *
    have TW := T1.next bW
    have bb := b1.trans (bW.mono b1.size)
    clear hal bW T1
    by_cases hneg : which < 0
    · go_wp2
      go_ret
      exact ⟨rfl, bb⟩
    · by_cases hbig : 9 ≤ which
      · go_wp2
        go_ret
        exact ⟨rfl, bb⟩
      · obtain ⟨j, rfl⟩ := Int.eq_ofNat_of_zero_le (show 0 ≤ which by omega)
        by_cases h6 : j = 6
        · subst h6
          go_wp2
          go_ret
          exact ⟨rfl, bb⟩
        · obtain ⟨A, B, bt, ts, ca, cb, cw, tW, hk⟩ := hall j (by omega) h6
          obtain ⟨out, sA, sB, sT⟩ := hk
          have h6' : ((j : Int) == 6) = false := by simp; omega
          have cw' : W.cell? ⟨w'.heap.size + 1 + 1 + 1 + 1 + 1 + 1 + 1 + 1 + 1 + 1, j, none⟩ = _ := cw
          have hj9 : (j : Int) < 9 := by omega
          have hjn : j < 9 := by omega
          obtain ⟨p3, m3, c3, w3, hrun, hB3, b3, _⟩ := conv_str (A ++ s ++ B) W.drew (by simp only [ByteArray.size_append]; omega)
          clear cw hall
          have b3' : Below W.heap.size W w3 := ⟨b3.os, b3.tape, b3.output, b3.size, b3.block⟩
          have hl4 : (A ++ s ++ B).data.toList.length ≤ 1000000 := by
            have : (A ++ s ++ B).data.toList.length = A.size + s.size + B.size := by
              rw [Array.length_toList, ← ByteArray.size_append, ← ByteArray.size_append]
              rfl
            omega
          have h4 := ofB_any _ _ w3 hB3 (TW.next b3') hl4
          rw [out] at h4
          have h5 := fun v4 w4 (t4 : TksAt w4.heap.size w4 v4 ts) (b4 : Below w3.heap.size w3 w4) => sameToks_yes v4 (.slice (some ⟨bt, 0, none⟩) ts.length ts.length) ts w4 t4 (tW.next (b3'.trans (b4.mono b3'.size))) (Nat.le_trans sT (by decide))
          have hS : ∀ X : World, Below W.heap.size W X → X.cell? ⟨w'.heap.size, j, none⟩ = some (.string A) ∧ X.cell? ⟨w'.heap.size + 1, j, none⟩ = some (.string B) ∧ X.cell? ⟨w'.heap.size + 1 + 1 + 1 + 1 + 1 + 1 + 1 + 1 + 1 + 1, j, none⟩ = some (.slice (some ⟨bt, 0, none⟩) ts.length ts.length) := fun X hX => ⟨(hX.cell (p := ⟨_, j, none⟩) (show w'.heap.size < _ by omega)).trans ca, (hX.cell (p := ⟨_, j, none⟩) (show w'.heap.size + 1 < _ by omega)).trans cb, (hX.cell (p := ⟨_, j, none⟩) hlt).trans cw'⟩
          have hj0 : (0 : Int) ≤ (j : Int) := Int.natCast_nonneg j
          clear out hl4 hB3 TW tW hlt
          go_upto_region 10 with fail
          go_cut [4] (fun s4 wx => s4 = .bool true ∧ Below W.heap.size W wx)
          case first =>
            go_region_held (fun X => X.cell? ⟨w'.heap.size, j, none⟩ = some (.string A) ∧ X.cell? ⟨w'.heap.size + 1, j, none⟩ = some (.string B) ∧ X.cell? ⟨w'.heap.size + 1 + 1 + 1 + 1 + 1 + 1 + 1 + 1 + 1 + 1, j, none⟩ = some (.slice (some ⟨bt, 0, none⟩) ts.length ts.length)) (first | exact hS _ (by assumption) | go_keep)
              (first
              | (go_at_call 10; refine h4.mono ?_; rintro e w4 ⟨v4, rfl, r4, b4⟩; have b34 := b3'.trans (b4.mono b3'.size))
              | (go_at_call 9; refine (h5 v4 _ (TksAt.of_owns r4) b4).mono ?_; rintro e w5 ⟨rfl, b5⟩; have b35 := b34.trans (b5.mono b34.size)))
            go_wp2_with fail
            go_meet
            exact ⟨rfl, b35⟩
          case rest =>
            obtain ⟨rfl, b9⟩ := hcut
            go_wp2
            go_ret
            exact ⟨rfl, bb.trans (b9.mono bb.size)⟩

theorem tokNames_met (os : Os) : laidMet Tryd.prog Rows.tokNamesRow.laid ((laidIn (World.holding Tryd.prog os ⟨#[], #[], []⟩)).forCall (fun _ _ => 0) ⟨#[], #[.string ⟨#[]⟩, .int .i64 0], []⟩).memory :=
  laidMet_of_run' 8 (by kernel_rfl) (by kernel_rfl)
theorem tokNames_reads (os : Os) {H : Type} (enc : TypeId × Value → H) : ∃ places, DataW.whole enc Tryd.prog ((laidIn (World.holding Tryd.prog os ⟨#[], #[], []⟩)).forCall (fun _ _ => 0) ⟨#[], #[.string ⟨#[]⟩, .int .i64 0], []⟩).memory Tryd.f3.params.toList Rows.tokNamesSpec.vars false (#[.string ⟨#[]⟩, .int .i64 0] : Array Value).toList 8 = some ([.lit (.string []), .lit (.int .i64 0)], [], places) :=
  ⟨[], by kernel_rfl⟩

set_option maxRecDepth 100000 in
theorem tokNames_lifted (os : Os) (started : os.Started) (H : Type) (enc : TypeId × Value → H) (F : Stop.Interp) :
    ReturnsInHanded {} Tryd.checked os 3 .any ((OpenSpec.ofChange Rows.tokNamesSpec).preRow enc Tryd.prog Tryd.f3 Rows.tokNamesRow.domain false Rows.tokNamesRow.laid) (((OpenSpec.ofChange Rows.tokNamesSpec).at F).post enc Tryd.prog Tryd.f3 false true false false) := by
  obtain ⟨places, hx⟩ := tokNames_reads os enc
  refine returnsInHanded_of_row (C := Tryd.checked) (s := OpenSpec.ofChange Rows.tokNamesSpec) ownNone started (by kernel_rfl) Tryd.func3
    (witness_row_at (enc := enc) (C := Tryd.checked) false (laidIn (World.holding Tryd.prog os ⟨#[], #[], []⟩)) #[.string ⟨#[]⟩, .int .i64 0] rfl (by kernel_rfl) (by kernel_rfl) (by kernel_rfl)
      (OpenSpec.preRow_of_cond 8 hx (by kernel_rfl) (fun k hk => by cases hk) (by kernel_rfl) (tokNames_met os))) ?_
  intro W base args ds gs before hval hW _ _ _ hL hS _
  have hW' := hW
  obtain ⟨p, q, hA0, hV, rfl, hfz, hnd⟩ := hW
  have hA : DataW.TrodAll enc Tryd.prog W 0 (fun _ => true) true Tryd.f3.params.toList args.toList ds p := hA0
  rw [Tryd.params3] at hA hval
  obtain ⟨v0, vs0, d0, ds0, p0, q0, hargs, rfl, rfl, h0, r0⟩ := trodAll_cons hA
  obtain ⟨v1, vs1, d1, ds1, p1, q1, rfl, rfl, rfl, h1, r1⟩ := trodAll_cons r0
  obtain ⟨rfl, rfl, rfl⟩ := trodAll_nil r1
  obtain rfl : args = #[v0, v1] := by cases args; simp_all
  obtain ⟨rfl, rfl⟩ := trodVars_none hV
  obtain ⟨s0, rfl, rfl, rfl, w0⟩ := open_string Tryd.underlying9 (hval 0 9 v0 rfl rfl) h0
  obtain ⟨a1, rfl, rfl, rfl, w1⟩ := open_int Tryd.underlying3 (hval 1 3 v1 rfl rfl) h1
  clear hA0
  refine (tokNames_walk W (tabs_of_laid hL hS) s0 w0 a1 w1).mono fun e W' ⟨he, bel⟩ => ?_
  subst he
  exact ⟨_, rfl, _, _, _, [], _, [], hW', trodAll_mk1 (shut_bool Tryd.underlying4 _), (trodAll_cons_mk (shut_string Tryd.underlying9 w0) (trodAll_cons_mk (shut_int Tryd.underlying3 w1) trodAll_mk0)), rfl, bel.frame _, fun h => by cases h⟩

theorem tokNames_said : Rows.TokNamesSaid :=
  OpenClaim.holds_of_cond 3 Tryd.f3 rfl rfl rfl rfl rfl rfl rfl ⟨rfl, rfl, rfl, rfl, rfl⟩ rfl rfl rfl rfl rfl (by kernel_rfl) Tryd.func3 (by kernel_rfl)
    (of_decide_eq_true (by kernel_rfl)) (by unfold Func.isWrapper; first | (rw [if_pos (by decide +kernel)]; kernel_rfl) | (rw [if_neg (by decide +kernel)]; exact ⟨rfl, rfl⟩))
    (fun os started H enc _ F => by rw [OpenClaim.pre_eq_preRow]; exact tokNames_lifted os started H enc F)

theorem tokNames_plain (f : FuncId) (fn : Func) (hf : Tryd.pinned.checked.prog.funcNamed "tapestrier/tapestrierlaw4.TokNames" = some f) (hfn : Tryd.pinned.checked.prog.funcs[f]? = some fn) :
    false = Tryd.pinned.checked.prog.looks [] ∧ ∀ (j : Nat) t, fn.params[j]? = some t → Tryd.pinned.checked.prog.wantsStandIn t = false := by
  obtain rfl : f = 3 := Option.some.inj ((show Tryd.prog.funcNamed "tapestrier/tapestrierlaw4.TokNames" = some 3 by kernel_rfl).symm.trans hf) |>.symm
  obtain rfl : fn = Tryd.f3 := (Option.some.inj (Tryd.func3.symm.trans hfn)).symm
  refine ⟨by kernel_rfl, fun j t ht => ?_⟩
  rw [Tryd.params3] at ht
  have hm : t ∈ [9, 3] := by simpa using Array.mem_of_getElem? ht
  have hall : ([9, 3].all fun u => !Tryd.prog.wantsStandIn u) = true := by kernel_rfl
  exact (show Tryd.prog.wantsStandIn t = false by simpa using List.all_eq_true.1 hall t hm)

theorem tokNames_card : Rows.TokNamesCardSaid :=
  Claim7.holds_tied_plain_at .later [] _ _ _ _ tokNames_said (fun _ h => by cases h) (by kernel_rfl) (fun _ h => by cases h) tokNames_row_tie rfl ⟨rfl, rfl⟩ (by kernel_rfl) rfl tokNames_plain (by kernel_rfl)
#print axioms tokNames_card

end Go.Proofs.YtaecamnlimlpkaaDoor
