/- Plain facts: what was encoded is decoded as it was; bytes of which the first part ends with one below 128 are read in parts as they are whole; what is prepared has no other line ends and comes back. -/
import Derived.Test.YtkhgmobependiaaDoorBsI
namespace Go.Proofs.YtkhgmobependiaaDoor
open Go Go.RowKit
open Go.Lib (decodeN)

theorem dn_one (n b0 b1 b2 b3 : Nat) (h : b0 < 128) : decodeN n b0 b1 b2 b3 = (b0, 1) := by unfold decodeN; rw [if_pos h]
theorem dn_two (n r b2 b3 : Nat) (hn : 2 ≤ n) (h1 : 128 ≤ r) (h2 : r < 2048) : decodeN n (192 + r / 64) (128 + r % 64) b2 b3 = (r, 2) := by
  unfold decodeN
  repeat' split
  all_goals first | (exfalso; omega) | (apply Prod.ext <;> simp only <;> omega)
theorem dn_three (n r b3 : Nat) (hn : 3 ≤ n) (h1 : 2048 ≤ r) (h2 : r < 65536) (h3 : r < 55296 ∨ 57343 < r) : decodeN n (224 + r / 4096) (128 + r / 64 % 64) (128 + r % 64) b3 = (r, 3) := by
  unfold decodeN
  repeat' split
  all_goals first | (exfalso; omega) | (apply Prod.ext <;> simp only <;> omega)
theorem dn_four (n r : Nat) (hn : 4 ≤ n) (h1 : 65536 ≤ r) (h2 : r ≤ 1114111) : decodeN n (240 + r / 262144) (128 + r / 4096 % 64) (128 + r / 64 % 64) (128 + r % 64) = (r, 4) := by
  unfold decodeN
  repeat' split
  all_goals first | (exfalso; omega) | (apply Prod.ext <;> simp only <;> omega)

theorem u8_toNat {x : Int} {n : Nat} (h : x = (n : Int)) (hn : n < 256) : (x.toNat.toUInt8).toNat = n := by
  subst h
  simp
  omega

/-- What was encoded is decoded. -/
theorem dec_enc1 (c : Int) (rest : List UInt8) : dec (enc1 c ++ rest) = ((fixC c).toNat, (enc1 c).length) := by
  obtain ⟨h0, h1, h2⟩ := fixC_right c
  unfold enc1 Lib.encodeRune
  generalize fixC c = x at *
  obtain ⟨r, rfl⟩ := Int.eq_ofNat_of_zero_le h0
  by_cases g1 : r < 128
  · rw [Lib.encodeRuneZ_one (by omega) (by omega)]
    rw [dec_eq (by simp)]
    simp only [List.map_cons, List.map_nil, List.cons_append, List.nil_append, List.getElem?_cons_zero, Option.getD_some, List.length_cons, List.length_nil]
    rw [u8_toNat (n := r) rfl (by omega), dn_one _ _ _ _ _ g1]
    simp
  · by_cases g2 : r < 2048
    · rw [Lib.encodeRuneZ_two (by omega) (by omega)]
      rw [dec_eq (by simp)]
      simp only [List.map_cons, List.map_nil, List.cons_append, List.nil_append, List.getElem?_cons_zero, List.getElem?_cons_succ, Option.getD_some, List.length_cons, List.length_nil]
      rw [u8_toNat (n := 192 + r / 64) (by omega) (by omega), u8_toNat (n := 128 + r % 64) (by omega) (by omega), dn_two _ _ _ _ (by omega) (by omega) g2]
      simp
    · by_cases g3 : r < 65536
      · rw [Lib.encodeRuneZ_three (by omega)]
        rw [dec_eq (by simp)]
        simp only [List.map_cons, List.map_nil, List.cons_append, List.nil_append, List.getElem?_cons_zero, List.getElem?_cons_succ, Option.getD_some, List.length_cons, List.length_nil]
        rw [u8_toNat (n := 224 + r / 4096) (by omega) (by omega), u8_toNat (n := 128 + r / 64 % 64) (by omega) (by omega), u8_toNat (n := 128 + r % 64) (by omega) (by omega), dn_three _ _ _ (by omega) (by omega) g3 (by omega)]
        simp
      · rw [Lib.encodeRuneZ_four (by omega) (by omega)]
        rw [dec_eq (by simp)]
        simp only [List.map_cons, List.map_nil, List.cons_append, List.nil_append, List.getElem?_cons_zero, List.getElem?_cons_succ, Option.getD_some, List.length_cons, List.length_nil]
        rw [u8_toNat (n := 240 + r / 262144) (by omega) (by omega), u8_toNat (n := 128 + r / 4096 % 64) (by omega) (by omega), u8_toNat (n := 128 + r / 64 % 64) (by omega) (by omega), u8_toNat (n := 128 + r % 64) (by omega) (by omega), dn_four _ _ (by omega) (by omega) (by omega)]
        simp

theorem enc1_ne (c : Int) : enc1 c ≠ [] := fun e => by have := enc1_len c; rw [e] at this; simp at this

/-- The code points of encoded ones are what was encoded. -/
theorem ipts_encs : ∀ (l : List Int), ipts (encs l) = l.map fixC
  | [] => rfl
  | c :: t => by
    have e : encs (c :: t) = enc1 c ++ encs t := by simp [encs]
    have hne : enc1 c ++ encs t ≠ [] := by simp [enc1_ne c]
    rw [e, ipts_cons hne, dec_enc1, List.drop_append_of_le_length (by simp), List.drop_length, List.nil_append, ipts_encs t]
    have := (fixC_right c).1
    simp
    omega

/-! ### In parts -/
theorem dn_parts4 (n m b0 b1 b2 b3 : Nat) (hn : 4 ≤ n) (hm : 4 ≤ m) : decodeN n b0 b1 b2 b3 = decodeN m b0 b1 b2 b3 := by
  unfold decodeN
  have e1 : (1 < n) = (1 < m) := propext ⟨fun _ => by omega, fun _ => by omega⟩
  have e2 : (2 < n) = (2 < m) := propext ⟨fun _ => by omega, fun _ => by omega⟩
  have e3 : (3 < n) = (3 < m) := propext ⟨fun _ => by omega, fun _ => by omega⟩
  simp only [e1, e2, e3]
theorem dn_parts3 (n b0 b1 b2 b3 c3 : Nat) (hn : 3 ≤ n) (h : b2 < 128) : decodeN n b0 b1 b2 b3 = decodeN 3 b0 b1 b2 c3 := by
  unfold decodeN
  repeat' split
  all_goals first | (exfalso; omega) | rfl
theorem dn_parts2 (n b0 b1 b2 b3 c2 c3 : Nat) (_hn : 2 ≤ n) (h : b1 < 128) : decodeN n b0 b1 b2 b3 = decodeN 2 b0 b1 c2 c3 := by
  unfold decodeN
  repeat' split
  all_goals first | (exfalso; omega) | rfl
theorem dec_parts (a b : List UInt8) (ha : a ≠ []) (hl : (a.getLast ha).toNat < 128) : dec (a ++ b) = dec a := by
  rw [dec_eq (by simp [ha]), dec_eq ha, List.length_append]
  have hpos := List.length_pos_iff.2 ha
  have hj : ∀ j, j < a.length → (a ++ b)[j]? = a[j]? := fun j h => List.getElem?_append_left h
  have hlast : a[a.length - 1]? = some (a.getLast ha) := by rw [← List.getLast?_eq_getElem?, List.getLast?_eq_some_getLast ha]
  by_cases h4 : 4 ≤ a.length
  · rw [hj 0 (by omega), hj 1 (by omega), hj 2 (by omega), hj 3 (by omega)]
    exact dn_parts4 _ _ _ _ _ _ (by omega) h4
  · by_cases h3 : a.length = 3
    · rw [hj 0 (by omega), hj 1 (by omega), hj 2 (by omega), h3]
      rw [h3] at hlast
      exact dn_parts3 _ _ _ _ _ _ (by omega) (by rw [hlast]; exact hl)
    · by_cases h2 : a.length = 2
      · rw [hj 0 (by omega), hj 1 (by omega), h2]
        rw [h2] at hlast
        exact dn_parts2 _ _ _ _ _ _ _ (by omega) (by rw [hlast]; exact hl)
      · have h1 : a.length = 1 := by omega
        rw [hj 0 (by omega)]
        rw [h1] at hlast
        have h0 : (a[0]?.getD 0).toNat < 128 := by rw [hlast]; exact hl
        rw [dn_one _ _ _ _ _ h0, dn_one _ _ _ _ _ h0]
theorem ipts_parts_aux : ∀ (f : Nat) (a b : List UInt8), a.length ≤ f → (∀ u, a.getLast? = some u → u.toNat < 128) → ipts (a ++ b) = ipts a ++ ipts b
  | 0, a, b, h, _ => by
    obtain rfl : a = [] := List.length_eq_zero_iff.1 (by omega)
    simp [ipts]
  | f + 1, a, b, h, hl => by
    by_cases e : a = []
    · subst e; simp [ipts]
    · have hd := dec_parts a b e (hl _ (List.getLast?_eq_some_getLast e))
      have hb := dec_bounds e
      rw [ipts_cons (l := a ++ b) (by simp [e]), ipts_cons e, hd, List.drop_append_of_le_length hb.2.1]
      rw [ipts_parts_aux f (a.drop (dec a).2) b (by simp; omega) (fun u hu => ?_)]
      · rfl
      · refine hl u ?_
        rw [List.getLast?_drop] at hu
        split at hu
        · cases hu
        · exact hu
/-- Bytes of which the first part ends with one below 128 are read in parts as they are whole. -/
theorem ipts_parts (a b : List UInt8) (h : ∀ u, a.getLast? = some u → u.toNat < 128) : ipts (a ++ b) = ipts a ++ ipts b := ipts_parts_aux _ a b (Nat.le_refl _) h

/-! ### What is prepared -/
theorem decodeN_right (n b0 b1 b2 b3 : Nat) : (decodeN n b0 b1 b2 b3).1 ≤ 1114111 ∧ ((decodeN n b0 b1 b2 b3).1 < 55296 ∨ 57343 < (decodeN n b0 b1 b2 b3).1) := by
  unfold decodeN
  repeat' split
  all_goals (simp only; omega)
theorem dec_right {l : List UInt8} (h : l ≠ []) : rightB (dec l).1 = true := by
  rw [dec_eq h]
  have := decodeN_right l.length (l[0]?.getD 0).toNat (l[1]?.getD 0).toNat (l[2]?.getD 0).toNat (l[3]?.getD 0).toNat
  exact rightB_true (by omega)
theorem ipts_right_aux : ∀ (f : Nat) (l : List UInt8), l.length ≤ f → ∀ p ∈ ipts l, rightB p = true
  | 0, l, h => by
    obtain rfl : l = [] := List.length_eq_zero_iff.1 (by omega)
    simp [ipts]
  | f + 1, l, h => by
    by_cases e : l = []
    · simp [e, ipts]
    · have hb := dec_bounds e
      rw [ipts_cons e]
      intro p hp
      rcases List.mem_cons.1 hp with rfl | hp
      · exact dec_right e
      · exact ipts_right_aux f (l.drop (dec l).2) (by simp; omega) p hp
theorem ipts_right (l : List UInt8) : ∀ p ∈ ipts l, rightB p = true := ipts_right_aux _ l (Nat.le_refl _)

/-- What a prepared text holds. -/
def Clean (p : Int) : Prop := p ≠ 13 ∧ p ≠ 12 ∧ 0 < p ∧ rightB p = true
theorem repl_clean {p : Int} (h : rightB p = true) : Clean (repl p) := by
  have hr := rightB_iff.1 h
  unfold repl
  split
  · exact ⟨by omega, by omega, by omega, by decide⟩
  · split
    · exact ⟨by omega, by omega, by omega, by decide⟩
    · exact ⟨by omega, by omega, by omega, h⟩
theorem prepFrom_clean : ∀ (l : List Int) (c : Bool), (∀ p ∈ l, rightB p = true) → ∀ p ∈ prepFrom c l, Clean p
  | [], _, _ => by simp [prepFrom]
  | q :: t, c, h => by
    have ih := prepFrom_clean t (q == 13) (fun p hp => h p (List.mem_cons_of_mem _ hp))
    intro p hp
    simp only [prepFrom] at hp
    split at hp
    · exact ih p hp
    · rcases List.mem_cons.1 hp with rfl | hp
      · exact repl_clean (h q (List.mem_cons_self ..))
      · exact ih p hp
theorem prepared_clean (bs : List UInt8) : ∀ p ∈ prep (ipts bs), Clean p := prepFrom_clean _ _ (ipts_right bs)
theorem prepFrom_same : ∀ (l : List Int), (∀ p ∈ l, p ≠ 13 ∧ p ≠ 12 ∧ p ≠ 0) → prepFrom false l = l
  | [], _ => rfl
  | q :: t, h => by
    obtain ⟨h1, h2, h3⟩ := h q (List.mem_cons_self ..)
    have ih := prepFrom_same t (fun p hp => h p (List.mem_cons_of_mem _ hp))
    have e : (q == 13) = false := by simpa using h1
    simp [prepFrom, e, ih, repl, h1, h2, h3]
theorem prep_same (l : List Int) (h : ∀ p ∈ l, p ≠ 13 ∧ p ≠ 12 ∧ p ≠ 0) : prep l = l := prepFrom_same l h
theorem map_fixC_same (l : List Int) (h : ∀ p ∈ l, rightB p = true) : l.map fixC = l := by
  conv => rhs; rw [← List.map_id l]
  exact List.map_congr_left (fun p hp => fixC_yes (h p hp))
/-- A prepared text, encoded and prepared again, is as it was. -/
theorem prep_back (bs : List UInt8) : prep (ipts (encs (prep (ipts bs)))) = prep (ipts bs) := by
  have hc := prepared_clean bs
  rw [ipts_encs, map_fixC_same _ (fun p hp => (hc p hp).2.2.2)]
  exact prep_same _ (fun p hp => ⟨(hc p hp).1, (hc p hp).2.1, by have := (hc p hp).2.2.1; omega⟩)

end Go.Proofs.YtkhgmobependiaaDoor
