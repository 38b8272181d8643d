/- The document's own matching (tapestrierref9): the words of a text. -/
import Derived.Test.YtchfnnoabejlpaaRfMini
import Derived.Shelf.RegionOpen
import Derived.Test.YtchfnnoabejlpaaRgn
import Derived.Test.YtchfnnoabejlpaaRfGa
namespace Go.Proofs.Ytchfnnoabejlpaa.Rf
open Go Go.RowKit Go.Shelf Sl Wg Bk

/-! ### plain facts -/
def wordsV : List UInt8 → List UInt8 → List (List UInt8)
  | acc, [] => if acc = [] then [] else [acc]
  | acc, c :: l => if white c then (if acc = [] then wordsV [] l else acc :: wordsV [] l) else wordsV (acc ++ [c]) l
def mid (l : List UInt8) (f k : Nat) : List UInt8 := (l.drop f).take (k - f)
theorem mid_nil {l : List UInt8} {f k : Nat} (hk : k ≤ l.length) : mid l f k = [] ↔ k ≤ f := by
  unfold mid
  rw [← List.length_eq_zero_iff, List.length_take, List.length_drop]
  omega
theorem mid_more {l : List UInt8} {f k : Nat} (hf : f ≤ k) (hk : k < l.length) : mid l f k ++ [l[k]] = mid l f (k + 1) := by
  unfold mid
  rw [show k + 1 - f = (k - f) + 1 by omega, List.take_succ_eq_append_getElem (by rw [List.length_drop]; omega), List.getElem_drop]
  congr 2
  congr 1
  omega
theorem words_go {l : List UInt8} {f k : Nat} (hf : f ≤ k) (hk : k < l.length) (hw : white l[k] = false) : wordsV (mid l f k) (l.drop k) = wordsV (mid l f (k + 1)) (l.drop (k + 1)) := by
  rw [List.drop_eq_getElem_cons hk, wordsV, hw, ← mid_more hf hk]
  rfl
theorem words_cut {l : List UInt8} {f k : Nat} (hk : k < l.length) (hw : white l[k] = true) : wordsV (mid l f k) (l.drop k) = (if f < k then [mid l f k] else []) ++ wordsV (mid l (k + 1) (k + 1)) (l.drop (k + 1)) := by
  have h0 : mid l (k + 1) (k + 1) = [] := (mid_nil (by omega)).2 (Nat.le_refl _)
  rw [List.drop_eq_getElem_cons hk, wordsV, hw, h0]
  by_cases h : f < k
  · rw [if_pos rfl, if_pos h, if_neg (fun e => by have := (mid_nil (by omega)).1 e; omega)]
    rfl
  · rw [if_pos rfl, if_neg h, if_pos ((mid_nil (by omega)).2 (by omega))]
    rfl
theorem words_end {l : List UInt8} {f k : Nat} (hk : k = l.length) : wordsV (mid l f k) (l.drop k) = (if f < k then [mid l f k] else []) := by
  rw [List.drop_of_length_le (by omega), wordsV]
  by_cases h : f < k
  · rw [if_pos h, if_neg (fun e => by have := (mid_nil (by omega)).1 e; omega)]
  · rw [if_neg h, if_pos ((mid_nil (by omega)).2 (by omega))]
theorem words_mem : ∀ (l acc : List UInt8), (∀ c ∈ acc, white c = false) → ∀ t ∈ wordsV acc l, t ≠ [] ∧ ∀ c ∈ t, white c = false
  | [], acc, h, t, ht => by
    rw [wordsV] at ht
    split at ht
    · cases ht
    · rename_i e
      rw [List.mem_singleton] at ht
      rw [ht]
      exact ⟨e, h⟩
  | c :: l, acc, h, t, ht => by
    rw [wordsV] at ht
    split at ht
    · split at ht
      · exact words_mem l [] (fun _ h => by cases h) t ht
      · rename_i e
        rcases List.mem_cons.1 ht with rfl | ht
        · exact ⟨e, h⟩
        · exact words_mem l [] (fun _ h => by cases h) t ht
    · rename_i e
      refine words_mem l (acc ++ [c]) (fun x hx => ?_) t ht
      rcases List.mem_append.1 hx with hx | hx
      · exact h x hx
      · rw [List.mem_singleton] at hx
        rw [hx]
        exact Bool.eq_false_iff.2 e
theorem words_none : ∀ (l acc : List UInt8), (∀ c ∈ l, white c = false) → wordsV acc l = if acc ++ l = [] then [] else [acc ++ l]
  | [], acc, _ => by rw [wordsV, List.append_nil]
  | c :: l, acc, h => by
    rw [wordsV, h c (List.mem_cons_self ..), words_none l (acc ++ [c]) (fun x hx => h x (List.mem_cons_of_mem _ hx)), List.append_assoc]
    rfl
/-- A word of a text is one word by itself. -/
theorem words_self {s t : List UInt8} (h : t ∈ wordsV [] s) : wordsV [] t = [t] := by
  obtain ⟨h1, h2⟩ := words_mem s [] (fun _ h => by cases h) t h
  rw [words_none t [] h2, List.nil_append, if_neg h1]
/-- Where the words of a text are being read: at k, a word begun at f, and the words behind. -/
def At (s : ByteArray) (f k : Nat) (F : List ByteArray) : Prop :=
  wordsV [] (bts s) = F.map bts ++ if k ≤ s.size then wordsV (mid (bts s) f k) ((bts s).drop k) else []
theorem At.start (s : ByteArray) : At s 0 0 [] := by
  unfold At
  rw [if_pos (Nat.zero_le _)]
  rfl
theorem At.go {s : ByteArray} {f k : Nat} {F : List ByteArray} (h : At s f k F) (hf : f ≤ k) (hk : k < s.size) (hw : white s[k] = false) : At s f (k + 1) F := by
  unfold At at h ⊢
  rw [if_pos (by omega), words_go (l := bts s) hf (by rw [bts_len]; exact hk) hw] at h
  rw [if_pos (by omega)]
  exact h
theorem At.cut {s : ByteArray} {f k : Nat} {F : List ByteArray} (h : At s f k F) (hk : k ≤ s.size) (hw : ∀ h : k < s.size, white s[k] = true) : At s (k + 1) (k + 1) (F ++ if f < k then [s.extract f k] else []) := by
  unfold At at h ⊢
  have e : bts (s.extract f k) = mid (bts s) f k := ex_list s f k
  rw [if_pos hk] at h
  rw [h, List.map_append, List.append_assoc]
  congr 1
  by_cases hlt : k < s.size
  · rw [words_cut (l := bts s) (by rw [bts_len]; exact hlt) (hw hlt), if_pos (show k + 1 ≤ s.size by omega)]
    congr 1
    split
    · rw [List.map_singleton, e]
    · rfl
  · rw [words_end (l := bts s) (by rw [bts_len]; omega), if_neg (show ¬ k + 1 ≤ s.size by omega), List.append_nil]
    split
    · rw [List.map_singleton, e]
    · rfl
theorem At.done {s : ByteArray} {f k : Nat} {F : List ByteArray} (h : At s f k F) (hk : s.size < k) : F.map bts = wordsV [] (bts s) := by
  unfold At at h
  rw [if_neg (by omega), List.append_nil] at h
  exact h.symm

set_option maxRecDepth 100000 in
set_option maxHeartbeats 4000000 in
theorem words_any (s : ByteArray) (hs : s.size ≤ 1099511627776) (w : World) :
    Calls Try.prog 46 #[.string s] w fun e w' => ∃ (x : Value) (F : List ByteArray), e = .returned x ∧ w'.ownsRow w.heap.size 9 1 x F.length (F.map Value.string) ∧ F.map bts = wordsV [] (bts s) ∧ Below w.heap.size w w' := by
  obtain ⟨j0, hj, hy0, hy1, hy2⟩ := info_of infoS
  go_enter Try.func46, Try.ntmps46
  go_wp2
  go_loopw [3, 4, 5] (fun x3 x4 x5 wr => ∃ (k f : Nat) (F : List ByteArray), x5 = .int .i64 k ∧ x4 = .int .i64 f ∧ k ≤ s.size + 1 ∧ f ≤ k ∧ F.length ≤ k ∧ wr.ownsRow w.heap.size 9 1 x3 F.length (F.map Value.string) ∧ Hid (At s f k F) ∧ Below w.heap.size w wr) (fun _ _ x5 _ => s.size + 1 - (intOf x5).toNat)
  case atStart => exact ⟨0, 0, [], rfl, rfl, Nat.zero_le _, Nat.le_refl _, Nat.le_refl _, World.ownsRow_nil _ _ _ _, At.start s, Below.refl _ _⟩
  case round =>
    obtain ⟨k, f, F, rfl, rfl, hk, hf, hFl, hr, HA, hb⟩ := hrel
    obtain ⟨q3, c3, rfl⟩ := owns_form hr
    have hbs := hb.size
    by_cases hlt : k < s.size
    · have hki : (k : Int) < (s.size : Int) := by omega
      have hB := blank_any ((s[k].toNat : Nat) : Int) wr
      rw [white_int] at hB
      cases ew : white s[k] with
      | false =>
        rw [ew] at hB
        have HA1 : Hid (At s f (k + 1) F) := HA.out.go hf hlt ew
        clear ew HA
        go_wp2_with fail
        refine hB.mono ?_
        clear hB
        rintro x w' ⟨rfl, hww⟩
        obtain rfl : wr = w' := hww.symm
        go_wp2
        go_roundw
        case rel => exact ⟨k + 1, f, F, by go_num, rfl, by omega, by omega, by omega, hr, HA1, hb⟩
        case measure => simp [intOf]; omega
      | true =>
        rw [ew] at hB
        have HA1 : Hid (At s (k + 1) (k + 1) (F ++ if f < k then [s.extract f k] else [])) := HA.out.cut (by omega) (fun _ => ew)
        clear ew HA
        by_cases hfk : f < k
        · have hfi : (f : Int) < (k : Int) := by omega
          rw [if_pos hfk] at HA1
          obtain ⟨NF, hNF⟩ : ∃ NF, F.length = NF := ⟨_, rfl⟩
          have HNF : Hid (F.length = NF) := hNF
          rw [hNF] at hr hFl ⊢
          clear hNF
          go_wp2_with fail
          refine hB.mono ?_
          clear hB
          rintro x w' ⟨rfl, hww⟩
          obtain rfl : wr = w' := hww.symm
          go_wp2_with (at_builtin; refine wpList_append_own_at _ rfl _ _ 36 rfl w.heap.size 9 j0 (.string ⟨#[]⟩) 1 16 Try.underlying36 hj hy0 hy1 hy2 rfl (by decide) (.slice q3 NF c3) NF _ rfl (hr.alloc _) ⟨wr.heap.size, 0, none⟩ 1 1 [.string (s.extract f k)] rfl rfl (cell_one_new _ _ _) (by simp [Value.oneCell']) (by unfold maxLen; omega) (by omega) (by simp; omega) ?_; intro v' w3 hown3 hgrow3 _hnil3 _hat3)
          go_roundw
          case rel =>
            have ha := (Below.refl wr.heap.size wr).alloc (Nat.le_refl _) (.cells #[.string (s.extract f k)] 9)
            refine ⟨k + 1, k + 1, F ++ [s.extract f k], by go_num, by go_num, by omega, by omega, by rw [List.length_append, HNF.out]; simp; omega, ?_, HA1, ((below_next hb ha).grown hgrow3 (by simp; omega) (fun r e => (owns_lt hr e).1))⟩
            rw [List.map_append, List.length_append, List.length_singleton, HNF.out]
            exact hown3
          case measure => simp [intOf]; omega
        · have hfi : ¬ (f : Int) < (k : Int) := by omega
          rw [if_neg hfk, List.append_nil] at HA1
          go_wp2_with fail
          refine hB.mono ?_
          clear hB
          rintro x w' ⟨rfl, hww⟩
          obtain rfl : wr = w' := hww.symm
          go_wp2
          go_roundw
          case rel => exact ⟨k + 1, k + 1, F, by go_num, by go_num, by omega, by omega, by omega, hr, HA1, hb⟩
          case measure => simp [intOf]; omega
    · by_cases heq : k = s.size
      · have HA1 : Hid (At s (k + 1) (k + 1) (F ++ if f < k then [s.extract f k] else [])) := HA.out.cut (by omega) (fun h => by omega)
        clear HA hlt
        subst heq
        by_cases hfk : f < s.size
        · have hfi : (f : Int) < (s.size : Int) := by omega
          rw [if_pos hfk] at HA1
          obtain ⟨NF, hNF⟩ : ∃ NF, F.length = NF := ⟨_, rfl⟩
          have HNF : Hid (F.length = NF) := hNF
          rw [hNF] at hr hFl ⊢
          clear hNF
          go_wp2_with (at_builtin; refine wpList_append_own_at _ rfl _ _ 36 rfl w.heap.size 9 j0 (.string ⟨#[]⟩) 1 16 Try.underlying36 hj hy0 hy1 hy2 rfl (by decide) (.slice q3 NF c3) NF _ rfl (hr.alloc _) ⟨wr.heap.size, 0, none⟩ 1 1 [.string (s.extract f s.size)] rfl rfl (cell_one_new _ _ _) (by simp [Value.oneCell']) (by unfold maxLen; omega) (by omega) (by simp; omega) ?_; intro v' w3 hown3 hgrow3 _hnil3 _hat3)
          go_roundw
          case rel =>
            have ha := (Below.refl wr.heap.size wr).alloc (Nat.le_refl _) (.cells #[.string (s.extract f s.size)] 9)
            refine ⟨s.size + 1, s.size + 1, F ++ [s.extract f s.size], by go_num, by go_num, by omega, by omega, by rw [List.length_append, HNF.out]; simp; omega, ?_, HA1, ((below_next hb ha).grown hgrow3 (by simp; omega) (fun r e => (owns_lt hr e).1))⟩
            rw [List.map_append, List.length_append, List.length_singleton, HNF.out]
            exact hown3
          case measure => simp [intOf]
        · have hfi : ¬ (f : Int) < (s.size : Int) := by omega
          rw [if_neg hfk, List.append_nil] at HA1
          go_wp2
          go_roundw
          case rel => exact ⟨s.size + 1, s.size + 1, F, by go_num, by go_num, by omega, by omega, by omega, hr, HA1, hb⟩
          case measure => simp [intOf]
      · have hki : ¬ (k : Int) ≤ (s.size : Int) := by omega
        have HD := HA.out.done (by omega)
        clear HA
        go_wp2
        go_ret
        exact ⟨_, rfl, F, hr, HD, hb⟩

end Go.Proofs.Ytchfnnoabejlpaa.Rf
