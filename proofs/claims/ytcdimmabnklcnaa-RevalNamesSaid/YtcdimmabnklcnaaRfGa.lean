/- The document's own matching (tapestrierref9): places in a row of numbers (nth, far). -/
import Derived.WalkKit
import Derived.Below
import Derived.Deep.QuietTactic
import Derived.BigQuiet
import Derived.Test.YtcdimmabnklcnaaProg
import Derived.Test.YtcdimmabnklcnaaDmGa
import Derived.Test.YtcdimmabnklcnaaTre
import Derived.Test.YtcdimmabnklcnaaDmGe
namespace Go.Proofs.Ytcdimmabnklcnaa.Rf
open Go Go.RowKit

def i64 (x : Int) : Prop := -9223372036854775808 ≤ x ∧ x ≤ 9223372036854775807
def rowV (p a b : Int) : Bool := if 0 < a then decide (b ≤ p ∧ (p - b) % a = 0) else if a < 0 then decide (p ≤ b ∧ (b - p) % (-a) = 0) else decide (p = b)

theorem wrapU (x : Int) : IntKind.u64.wrap x = x % 18446744073709551616 := by simp [IntKind.wrap, IntKind.bits, IntKind.signed]
theorem wrapU_sub {p b : Int} (hp : i64 p) (hb : i64 b) (h : b ≤ p) : IntKind.u64.wrap (IntKind.u64.wrap p - IntKind.u64.wrap b) = p - b := by
  unfold i64 at hp hb
  rw [wrapU, wrapU, wrapU]
  omega
theorem wrapU_neg {a : Int} (ha : i64 a) (h : a < 0) : IntKind.u64.wrap (-IntKind.u64.wrap a) = -a := by
  unfold i64 at ha
  rw [wrapU, wrapU]
  omega

set_option maxRecDepth 100000 in
set_option maxHeartbeats 2000000 in
theorem far_any (p a b : Int) (hp : i64 p) (ha : i64 a) (hb : i64 b) (h0 : a ≠ 0) (w : World) :
    Calls Try.prog 101 #[.int .i64 p, .int .i64 a, .int .i64 b] w fun e w' => e = .returned (.bool (rowV p a b)) ∧ w' = w := by
  have hs1 := fun h => wrapU_sub (p := p) (b := b) hp hb h
  have hs2 := fun h => wrapU_sub (p := b) (b := p) hb hp h
  have hn := fun h => wrapU_neg (a := a) ha h
  unfold i64 at hp ha hb
  by_cases he : b = p
  · subst he
    have hV : rowV b a b = true := by
      unfold rowV
      split
      · simp
      · split
        · simp
        · simp
    rw [hV]
    clear hs1 hs2 hn hV
    go_enter Try.func101, Try.ntmps101
    go_wp2
    go_ret
    exact ⟨rfl, rfl⟩
  · have hne : (b == p) = false := by simpa using he
    unfold rowV
    by_cases h1 : 0 < a
    · rw [if_pos h1]
      have h2 : ¬ (a < 0) := by omega
      by_cases h3 : b < p
      · have hs := hs1 (by omega)
        have hV : decide (b ≤ p ∧ (p - b) % a = 0) = ((p - b) % a == 0) := by
          rw [Bool.eq_iff_iff]
          have : b ≤ p := by omega
          simp [this]
        rw [hV]
        clear hs1 hs2 hn hV
        have hw : IntKind.u64.wrap a = a := by rw [wrapU]; omega
        go_enter Try.func101, Try.ntmps101
        go_wp2
        go_ret
        exact ⟨rfl, rfl⟩
      · rw [decide_eq_false (fun h => by omega)]
        clear hs1 hs2 hn
        go_enter Try.func101, Try.ntmps101
        go_wp2
        go_ret
        exact ⟨rfl, rfl⟩
    · rw [if_neg h1]
      have h2 : a < 0 := by omega
      rw [if_pos h2]
      by_cases h3 : b < p
      · rw [decide_eq_false (fun h => by omega)]
        clear hs1 hs2 hn
        go_enter Try.func101, Try.ntmps101
        go_wp2
        go_ret
        exact ⟨rfl, rfl⟩
      · have hs := hs2 (by omega)
        have hm := hn h2
        have hm0 : ¬ (-a = 0) := by omega
        obtain ⟨m, hm2⟩ : ∃ m, -a = m := ⟨_, rfl⟩
        rw [hm2] at hm hm0
        have hV : decide (p ≤ b ∧ (b - p) % -a = 0) = ((b - p) % m == 0) := by
          have : p ≤ b := by omega
          rw [hm2, Bool.eq_iff_iff]
          simp [this]
        rw [hV]
        clear hs1 hs2 hn hV hm2
        go_enter Try.func101, Try.ntmps101
        go_wp2
        go_ret
        exact ⟨rfl, rfl⟩

theorem row_near {p a b : Int} (h0 : a ≠ 0) : (Int.tmod (p - b) a = 0 ∧ 0 ≤ Int.tdiv (p - b) a) ↔ rowV p a b = true := by
  unfold rowV
  have hd : Int.tmod (p - b) a = 0 ↔ a ∣ (p - b) := (Int.dvd_iff_tmod_eq_zero).symm
  rw [hd]
  constructor
  · rintro ⟨⟨k, hk⟩, h⟩
    rw [hk, Int.mul_tdiv_cancel_left _ h0] at h
    split
    · rename_i h1
      refine decide_eq_true ⟨?_, by rw [hk]; exact Int.mul_emod_right _ _⟩
      have := Int.mul_nonneg (Int.le_of_lt h1) h
      omega
    · rename_i h1
      have h2 : a < 0 := by omega
      rw [if_pos h2]
      have e : b - p = (-a) * k := by rw [Int.neg_mul]; omega
      refine decide_eq_true ⟨?_, by rw [e]; exact Int.mul_emod_right _ _⟩
      have := Int.mul_nonneg (show 0 ≤ -a by omega) h
      omega
  · split
    · rename_i h1
      intro h
      obtain ⟨h2, h3⟩ := of_decide_eq_true h
      exact ⟨Int.dvd_of_emod_eq_zero h3, Int.tdiv_nonneg (by omega) (by omega)⟩
    · rename_i h1
      have h2 : a < 0 := by omega
      rw [if_pos h2]
      intro h
      obtain ⟨h2, h3⟩ := of_decide_eq_true h
      have h4 : -a ∣ b - p := Int.dvd_of_emod_eq_zero h3
      obtain ⟨k, hk⟩ := h4
      have e : p - b = a * k := by rw [Int.neg_mul] at hk; omega
      refine ⟨⟨k, e⟩, ?_⟩
      rw [show p - b = -(b - p) by omega, show a = -(-a) by omega, Int.neg_tdiv_neg]
      exact Int.tdiv_nonneg (by omega) (by omega)

set_option maxRecDepth 100000 in
set_option maxHeartbeats 2000000 in
theorem nth_any (p a b : Int) (hp : 0 ≤ p ∧ p ≤ 4294967296) (ha : i64 a) (hb : i64 b) (w : World) :
    Calls Try.prog 95 #[.int .i64 p, .int .i64 a, .int .i64 b] w fun e w' => e = .returned (.bool (rowV p a b)) ∧ w' = w := by
  by_cases h0 : a = 0
  · subst h0
    have hV : rowV p 0 b = (p == b) := by
      unfold rowV
      rw [if_neg (by omega), if_neg (by omega), Bool.eq_iff_iff]
      simp
    rw [hV]
    go_enter Try.func95, Try.ntmps95
    go_wp2
    go_ret
    exact ⟨rfl, rfl⟩
  · have hF := far_any p a b (by unfold i64; omega) ha hb h0 w
    have hN := row_near (p := p) (b := b) h0
    generalize rowV p a b = V at hF hN ⊢
    unfold i64 at ha hb
    have hne : (a == 0) = false := by simpa using h0
    by_cases h1 : 1099511627776 < b
    · clear hN
      go_enter Try.func95, Try.ntmps95
      go_wp2_with fail
      refine hF.mono ?_
      clear hF
      rintro x w' ⟨rfl, rfl⟩
      go_wp2
      go_ret
      exact ⟨rfl, rfl⟩
    · by_cases h2 : b < -1099511627776
      · clear hN
        go_enter Try.func95, Try.ntmps95
        go_wp2_with fail
        refine hF.mono ?_
        clear hF
        rintro x w' ⟨rfl, rfl⟩
        go_wp2
        go_ret
        exact ⟨rfl, rfl⟩
      · by_cases h3 : 1099511627776 < a
        · clear hN
          go_enter Try.func95, Try.ntmps95
          go_wp2_with fail
          refine hF.mono ?_
          clear hF
          rintro x w' ⟨rfl, rfl⟩
          go_wp2
          go_ret
          exact ⟨rfl, rfl⟩
        · by_cases h4 : a < -1099511627776
          · clear hN
            go_enter Try.func95, Try.ntmps95
            go_wp2_with fail
            refine hF.mono ?_
            clear hF
            rintro x w' ⟨rfl, rfl⟩
            go_wp2
            go_ret
            exact ⟨rfl, rfl⟩
          · clear hF
            have hQ : -9223372036854775808 ≤ (p - b).tdiv a ∧ (p - b).tdiv a ≤ 9223372036854775807 := by
              have := Int.natAbs_tdiv_le_natAbs (p - b) a
              omega
            by_cases hm : (p - b).tmod a = 0
            · have hV : V = decide (0 ≤ (p - b).tdiv a) := by
                rw [Bool.eq_iff_iff, ← hN]
                simp [hm]
              rw [hV]
              clear hN hV
              go_enter Try.func95, Try.ntmps95
              go_wp2
              go_ret
              exact ⟨rfl, rfl⟩
            · have hV : V = false := by
                rw [Bool.eq_false_iff]
                exact fun h => hm (hN.2 h).1
              rw [hV]
              clear hN hV
              go_enter Try.func95, Try.ntmps95
              go_wp2
              go_ret
              exact ⟨rfl, rfl⟩

end Go.Proofs.Ytcdimmabnklcnaa.Rf

/- The document's own matching (tapestrierref9): texts (blank, begins, ends, in). -/
namespace Go.Proofs.Ytcdimmabnklcnaa.Rf
open Go Go.RowKit

/-! ### plain facts -/
def bts (s : ByteArray) : List UInt8 := s.data.toList
theorem bts_len (s : ByteArray) : (bts s).length = s.size := by
  show s.data.toList.length = s.data.size
  exact Array.length_toList
def infixV (t : List UInt8) : List UInt8 → Bool
  | [] => t.isPrefixOf []
  | c :: l => t.isPrefixOf (c :: l) || infixV t l
theorem infix_step (t l : List UInt8) : infixV t l = (t.isPrefixOf l || infixV t (l.drop 1)) := by
  cases l with
  | nil => unfold infixV; simp
  | cons c l => rfl
theorem infix_short (t : List UInt8) : ∀ l : List UInt8, l.length < t.length → infixV t l = false
  | [], h => by
    unfold infixV
    rw [Bool.eq_false_iff]
    intro e
    have := (List.isPrefixOf_iff_prefix.1 e).length_le
    omega
  | c :: l, h => by
    unfold infixV
    rw [infix_short t l (by simp only [List.length_cons] at h; omega), Bool.or_false, Bool.eq_false_iff]
    intro e
    have := (List.isPrefixOf_iff_prefix.1 e).length_le
    omega
theorem ex_list (s : ByteArray) (a b : Nat) : (s.extract a b).data.toList = ((bts s).drop a).take (b - a) := by
  unfold bts
  rw [ByteArray.data_extract, Array.toList_extract, List.extract_eq_take_drop]
theorem piece (s x : ByteArray) (i : Nat) : ((s.extract i (i + x.size)).toList == x.toList) = (bts x).isPrefixOf ((bts s).drop i) := by
  rw [ByteArray.toList_eq, ByteArray.toList_eq, ex_list, Nat.add_sub_cancel_left, Bool.eq_iff_iff, beq_iff_eq, List.isPrefixOf_iff_prefix, List.prefix_iff_eq_take, bts_len]
  exact ⟨fun h => h.symm, fun h => h.symm⟩
theorem piece0 (s x : ByteArray) : ((s.extract 0 x.size).toList == x.toList) = (bts x).isPrefixOf (bts s) := by
  have := piece s x 0
  rw [Nat.zero_add] at this
  exact this
theorem pieceE (s x : ByteArray) : ((s.extract (s.size - x.size) s.size).toList == x.toList) = (bts x).isSuffixOf (bts s) := by
  rw [ByteArray.toList_eq, ByteArray.toList_eq, ex_list, Bool.eq_iff_iff, beq_iff_eq, List.isSuffixOf_iff_suffix, List.suffix_iff_eq_drop, bts_len, bts_len, List.take_of_length_le (by rw [List.length_drop, bts_len]; omega)]
  exact ⟨fun h => h.symm, fun h => h.symm⟩

set_option maxRecDepth 100000 in
set_option maxHeartbeats 2000000 in
theorem begins_any (s x : ByteArray) (w : World) :
    Calls Try.prog 89 #[.string s, .string x] w fun e w' => e = .returned (.bool ((bts x).isPrefixOf (bts s))) ∧ w' = w := by
  by_cases h : x.size ≤ s.size
  · rw [← piece0]
    go_enter Try.func89, Try.ntmps89
    go_wp2
    go_ret
    exact ⟨rfl, rfl⟩
  · have hV : (bts x).isPrefixOf (bts s) = false := by
      rw [Bool.eq_false_iff]
      intro e
      have := (List.isPrefixOf_iff_prefix.1 e).length_le
      rw [bts_len, bts_len] at this
      omega
    rw [hV]
    clear hV
    go_enter Try.func89, Try.ntmps89
    go_wp2
    go_ret
    exact ⟨rfl, rfl⟩

set_option maxRecDepth 100000 in
set_option maxHeartbeats 2000000 in
theorem ends_any (s x : ByteArray) (hs : s.size < 9223372036854775808) (w : World) :
    Calls Try.prog 90 #[.string s, .string x] w fun e w' => e = .returned (.bool ((bts x).isSuffixOf (bts s))) ∧ w' = w := by
  by_cases h : x.size ≤ s.size
  · rw [← pieceE s x]
    go_enter Try.func90, Try.ntmps90
    go_wp2
    go_ret
    exact ⟨rfl, rfl⟩
  · have hV : (bts x).isSuffixOf (bts s) = false := by
      rw [Bool.eq_false_iff]
      intro e
      have := (List.isSuffixOf_iff_suffix.1 e).length_le
      rw [bts_len, bts_len] at this
      omega
    rw [hV]
    clear hV
    go_enter Try.func90, Try.ntmps90
    go_wp2
    go_ret
    exact ⟨rfl, rfl⟩

set_option maxRecDepth 100000 in
set_option maxHeartbeats 2000000 in
theorem in_any (s x : ByteArray) (hs : s.size < 4611686018427387904) (hx : x.size < 4611686018427387904) (w : World) :
    Calls Try.prog 91 #[.string s, .string x] w fun e w' => e = .returned (.bool (infixV (bts x) (bts s))) ∧ w' = w := by
  obtain ⟨V, hV⟩ : ∃ V, infixV (bts x) (bts s) = V := ⟨_, rfl⟩
  rw [hV]
  have HVV : Hid (infixV (bts x) ((bts s).drop 0) = V) := hV
  clear hV
  go_enter Try.func91, Try.ntmps91
  go_wp2
  go_loopw [5] (fun y wr => ∃ k : Nat, y = .int .i64 k ∧ k ≤ s.size ∧ Hid (infixV (bts x) ((bts s).drop k) = V) ∧ wr = w) (fun y _ => s.size + 1 - (intOf y).toNat)
  case atStart => exact ⟨0, rfl, Nat.zero_le _, HVV, rfl⟩
  case round =>
    clear HVV
    obtain ⟨k, rfl, hk, HN, rfl⟩ := hrel
    by_cases hlt : k + x.size ≤ s.size
    · have hki : (k : Int) + (x.size : Int) ≤ (s.size : Int) := by omega
      have hP := piece s x k
      obtain ⟨m, hm⟩ : ∃ m : Nat, k + x.size = m := ⟨_, rfl⟩
      have hmi : (k : Int) + (x.size : Int) = (m : Int) := by omega
      have hkm : k ≤ m := by omega
      have hms : m ≤ s.size := by omega
      rw [hm] at hP
      have hk1 : (k : Int) + 1 ≤ 9223372036854775807 := by omega
      cases e : (bts x).isPrefixOf ((bts s).drop k) with
      | true =>
        rw [e] at hP
        have hVt : true = V := by rw [← HN.out, infix_step, e]; rfl
        subst hVt
        clear HN e
        go_wp2
        go_ret
        exact ⟨rfl, rfl⟩
      | false =>
        rw [e] at hP
        have HN1 : Hid (infixV (bts x) ((bts s).drop (k + 1)) = V) := by
          show _ = _
          rw [← HN.out, infix_step _ ((bts s).drop k), e, Bool.false_or, List.drop_drop]
        have hx0 : x.size ≠ 0 := by
          intro h
          have : bts x = [] := List.eq_nil_of_length_eq_zero (by rw [bts_len]; exact h)
          rw [this] at e
          simp at e
        clear HN e
        go_wp2
        go_roundw
        case rel => exact ⟨k + 1, by go_num, by omega, HN1, trivial⟩
        case measure => simp [intOf]; omega
    · have hki : ¬ ((k : Int) + (x.size : Int) ≤ (s.size : Int)) := by omega
      have hVf : false = V := by
        rw [← HN.out, infix_short]
        rw [List.length_drop, bts_len, bts_len]
        omega
      subst hVf
      clear HN
      go_wp2
      go_ret
      exact ⟨rfl, rfl⟩

def white (c : UInt8) : Bool := c == 9 || c == 10 || c == 12 || c == 13 || c == 32
def whiteI (c : Int) : Bool := c == 9 || c == 10 || c == 12 || c == 13 || c == 32
theorem white_int (c : UInt8) : whiteI ((c.toNat : Nat) : Int) = white c := by
  have h : ∀ n : Nat, n < 256 → (((c.toNat : Nat) : Int) == (n : Int)) = (c == UInt8.ofNat n) := by
    intro n hn
    rw [Bool.eq_iff_iff, beq_iff_eq, beq_iff_eq]
    constructor
    · intro h
      apply UInt8.toNat_inj.1
      rw [UInt8.toNat_ofNat']
      omega
    · rintro rfl
      rw [UInt8.toNat_ofNat']
      omega
  show (_ == ((9 : Nat) : Int) || _ == ((10 : Nat) : Int) || _ == ((12 : Nat) : Int) || _ == ((13 : Nat) : Int) || _ == ((32 : Nat) : Int)) = _
  rw [h 9 (by omega), h 10 (by omega), h 12 (by omega), h 13 (by omega), h 32 (by omega)]
  rfl

set_option maxRecDepth 100000 in
set_option maxHeartbeats 2000000 in
theorem blank_any (c : Int) (w : World) :
    Calls Try.prog 100 #[.int .u8 c] w fun e w' => e = .returned (.bool (whiteI c)) ∧ w' = w := by
  unfold whiteI
  by_cases h1 : c = 9
  · subst h1
    go_enter Try.func100, Try.ntmps100
    go_wp2
    go_ret
    exact ⟨rfl, rfl⟩
  · by_cases h2 : c = 10
    · subst h2
      go_enter Try.func100, Try.ntmps100
      go_wp2
      go_ret
      exact ⟨rfl, rfl⟩
    · by_cases h3 : c = 12
      · subst h3
        go_enter Try.func100, Try.ntmps100
        go_wp2
        go_ret
        exact ⟨rfl, rfl⟩
      · by_cases h4 : c = 13
        · subst h4
          go_enter Try.func100, Try.ntmps100
          go_wp2
          go_ret
          exact ⟨rfl, rfl⟩
        · have e1 : (c == 9) = false := by simpa using h1
          have e2 : (c == 10) = false := by simpa using h2
          have e3 : (c == 12) = false := by simpa using h3
          have e4 : (c == 13) = false := by simpa using h4
          rw [e1, e2, e3, e4, Bool.false_or, Bool.false_or, Bool.false_or, Bool.false_or]
          go_enter Try.func100, Try.ntmps100
          go_wp2
          go_ret
          exact ⟨rfl, rfl⟩

end Go.Proofs.Ytcdimmabnklcnaa.Rf

/- Matching in plain words: selectors as trees, and of which elements of a tree they are (chapter 10). -/
namespace Go.Proofs.Ytcdimmabnklcnaa.Mt
open Go.Proofs.Ytcdimmabnklcnaa.Tre
open Go Dm

def zeroCp : Cp := .mk ⟨#[]⟩ [] [] [] []
def partAt (s : Sel) (k : Nat) : Pt := s.getD k (0, zeroCp)
theorem partAt_eq {s : Sel} {k : Nat} {p : Pt} (h : s[k]? = some p) : partAt s k = p := by simp [partAt, List.getD, h]

/-! ### names -/
def bts (s : ByteArray) : List UInt8 := s.data.toList
def white (c : UInt8) : Bool := c == 9 || c == 10 || c == 12 || c == 13 || c == 32
/-- The words of a text: parted by white. -/
def wordsV : List UInt8 → List UInt8 → List (List UInt8)
  | acc, [] => if acc = [] then [] else [acc]
  | acc, c :: l => if white c then (if acc = [] then wordsV [] l else acc :: wordsV [] l) else wordsV (acc ++ [c]) l
def dashV (s t : List UInt8) : Bool := decide (s = t) || (t ++ [45]).isPrefixOf s
def infixV (t : List UInt8) : List UInt8 → Bool
  | [] => t.isPrefixOf []
  | c :: l => t.isPrefixOf (c :: l) || infixV t l
/-- Is a text of an attribute so? -/
def textV (s : ByteArray) (a : At) : Bool :=
  if a.op = 0 then true else if a.op = 1 then decide (s = a.text)
  else if a.op = 2 then (wordsV [] (bts s)).contains (bts a.text)
  else if a.op = 3 then dashV (bts s) (bts a.text)
  else if a.op = 4 then decide (bts a.text ≠ []) && (bts a.text).isPrefixOf (bts s)
  else if a.op = 5 then decide (bts a.text ≠ []) && (bts a.text).isSuffixOf (bts s)
  else if a.op = 6 then decide (bts a.text ≠ []) && infixV (bts a.text) (bts s)
  else false
/-- Has a node an attribute that is so? -/
def attrV (n : Nd) (a : At) : Bool := match n.ats.find? (fun p => decide (p.1 = a.name)) with
  | some p => textV p.2 a
  | none => false
/-- Has a node the tag, the ID, the classes and the attributes that a compound says? -/
def namedV (n : Nd) (c : Cp) : Bool :=
  ((decide (c.tag = ⟨#[]⟩) || decide (c.tag = n.tag)) && c.ids.all (fun i => decide (i ≠ ⟨#[]⟩) && decide (i = n.id))) && c.classes.all (fun k => n.cls.any (fun s => decide (s = k))) && c.attrs.all (attrV n)

/-! ### places -/
def inRowV (p a b : Int) : Bool := if 0 < a then decide (b ≤ p ∧ (p - b) % a = 0) else if a < 0 then decide (p ≤ b ∧ (b - p) % (-a) = 0) else decide (p = b)
def lastV (es : List El) (e : Int) : Bool := decide (parentV es e = -1) || decide (placeV es e = (childrenV es (parentV es e)).length)
def firstV (es : List El) (e : Int) : Bool := decide (placeV es e = 1)
def placedV (es : List El) (e : Int) (p : Ps) : Bool :=
  if p.kind = 1 then decide (parentV es e = -1) else if p.kind = 2 then firstV es e else if p.kind = 3 then lastV es e
  else if p.kind = 4 then firstV es e && lastV es e else if p.kind = 5 then decide ((childrenV es e).length = 0)
  else if p.kind = 6 then inRowV (placeV es e) p.a p.b else false

/-! ### compounds and selectors, given what lists are -/
/-- What lists answer. -/
abbrev Any := List Sel → Nat → Bool
def pseudoV (Q : Any) (es : List El) (p : Ps) (e : Nat) : Bool := if p.kind = 7 then !(Q p.list e) else if p.kind = 8 then Q p.list e else placedV es e p
def compV (Q : Any) (es : List El) (c : Cp) (e : Nat) : Bool := namedV (nodeV es e) c && c.pss.all (fun p => pseudoV Q es p e)
/-- Where a combinator leads, and whether it leads on. -/
def nextV (es : List El) (comb : Int) (x : Int) : Int := if comb = 1 ∨ comb = 2 then parentV es x else if comb = 3 ∨ comb = 4 then beforeV es x else -1
def farV (comb : Int) : Bool := decide (comb = 1 ∨ comb = 4)
/-- The elements ahead, the nearest one first. -/
def chain (es : List El) (comb : Int) : Nat → Int → List Nat
  | 0, _ => []
  | f + 1, x => if nextV es comb x = -1 then [] else (nextV es comb x).toNat :: (if farV comb then chain es comb f (nextV es comb x) else [])
def aheadV (es : List El) (comb : Int) (e : Nat) : List Nat := chain es comb (e + 1) e
/-- Is the selector of the parts up to k of e? -/
def uptoV (Q : Any) (es : List El) (s : Sel) : Nat → Nat → Bool
  | 0, e => compV Q es (partAt s 0).2 e
  | k + 1, e => compV Q es (partAt s (k + 1)).2 e && (aheadV es (partAt s (k + 1)).1 e).any (uptoV Q es s k)
def selV (Q : Any) (es : List El) (s : Sel) (e : Nat) : Bool := decide (0 < s.length) && uptoV Q es s (s.length - 1) e
/-- One of a list at least; lists stand so deep at most. -/
def anyV (es : List El) : Nat → Any
  | 0, _, _ => false
  | d + 1, l, e => l.any (fun s => selV (anyV es d) es s e)

/-! ### bounds -/
def listed (p : Ps) : Bool := decide (p.kind = 7) || decide (p.kind = 8)
/-- The lists of not and is that lie in it. -/
def listsV (s : Sel) : List (List Sel) := s.flatMap (fun p => (p.2.pss.filter listed).map Ps.list)
/-- May lists stand so deep in it, and has none more than 50 parts? -/
def fitsV : Nat → Sel → Bool
  | 0, s => decide (s.length ≤ 50) && (listsV s).all (fun _ => false)
  | d + 1, s => decide (s.length ≤ 50) && (listsV s).all (fun l => l.all (fitsV d))
/-- What match.Selector answers. -/
def selectorV (es : List El) (e : Int) (s : Sel) : Bool := decide (0 ≤ e ∧ e < es.length) && (fitsV 8 s && selV (anyV es 8) es s e.toNat)

end Go.Proofs.Ytcdimmabnklcnaa.Mt

/- The elements ahead: plain facts. -/
namespace Go.Proofs.Ytcdimmabnklcnaa.Mt
open Go.Proofs.Ytcdimmabnklcnaa.Tre
open Go Dm

theorem parentV_lt {es : List El} (hO : TreeOk es) {k : Nat} (hk : k < es.length) : parentV es k = -1 ∨ ∃ j : Nat, parentV es k = j ∧ j < k := by
  have hq : es[k]? = some es[k] := List.getElem?_eq_getElem hk
  have hV : parentV es (k : Int) = es[k].nd.parent := by unfold parentV; rw [elAt_yes hq]; rfl
  rw [hV]
  rcases Nat.eq_zero_or_pos k with rfl | h0
  · exact .inl (hO.root _ hq).1
  · obtain ⟨p, q, h1, h2, _⟩ := hO.par k _ hq h0
    exact .inr ⟨p, h1, h2⟩
theorem beforeV_lt {es : List El} (hO : TreeOk es) {k : Nat} (hk : k < es.length) : beforeV es k = -1 ∨ ∃ j : Nat, beforeV es k = j ∧ j < k := by
  have hq : es[k]? = some es[k] := List.getElem?_eq_getElem hk
  unfold beforeV
  rw [if_pos ⟨by omega, by omega⟩, Int.toNat_natCast, sibV_at hq]
  rcases Nat.eq_zero_or_pos k with rfl | h0
  · rw [if_pos (hO.root _ hq).1]
    exact .inl rfl
  · obtain ⟨p, q, h1, h2, h3, _, h5, h6⟩ := hO.par k _ hq h0
    rw [if_neg (by omega), h1]
    have hc : childrenV es (p : Int) = q.ch := by unfold childrenV; rw [elAt_yes h3]; rfl
    rw [hc]
    by_cases hp : es[k].place = 1
    · exact .inl (nthI_no (by omega))
    · right
      have hi : ((es[k].place : Int) - 1 + -1) = ((es[k].place - 2 : Nat) : Int) := by omega
      rw [hi]
      have hlt := (List.getElem?_eq_some_iff.1 h6).1
      have hx : q.ch[es[k].place - 2]? = some (q.ch[es[k].place - 2]'(by omega)) := List.getElem?_eq_getElem (by omega)
      rw [nthI_yes hx]
      refine ⟨_, rfl, ?_⟩
      have hr := hO.rise p q h3
      rw [List.pairwise_iff_getElem] at hr
      have := hr (es[k].place - 2) (es[k].place - 1) (by omega) hlt (by omega)
      rwa [(List.getElem?_eq_some_iff.1 h6).2] at this
theorem nextV_lt {es : List El} (hO : TreeOk es) {k : Nat} (hk : k < es.length) (comb : Int) : nextV es comb k = -1 ∨ ∃ j : Nat, nextV es comb k = j ∧ j < k := by
  unfold nextV
  split
  · exact parentV_lt hO hk
  · split
    · exact beforeV_lt hO hk
    · exact .inl rfl
/-- What is still to come. -/
def restV (es : List El) (comb : Int) (f : Nat) (y : Int) : List Nat := if y = -1 then [] else y.toNat :: (if farV comb then chain es comb f y else [])
theorem chain_succ (es : List El) (comb : Int) (f : Nat) (x : Int) : chain es comb (f + 1) x = restV es comb f (nextV es comb x) := rfl
theorem restV_end (es : List El) (comb : Int) (f : Nat) : restV es comb f (-1) = [] := if_pos rfl
theorem restV_at (es : List El) (comb : Int) (f j : Nat) : restV es comb f (j : Int) = j :: (if farV comb then chain es comb f j else []) := by
  unfold restV
  rw [if_neg (by omega), Int.toNat_natCast]

theorem chain_fuel {es : List El} (hO : TreeOk es) (comb : Int) : ∀ (f y : Nat), y < es.length → y < f → chain es comb f y = chain es comb (y + 1) y := by
  intro f
  induction f using Nat.strongRecOn with
  | _ f ih =>
    intro y hy hf
    obtain ⟨f', rfl⟩ : ∃ f', f = f' + 1 := ⟨f - 1, by omega⟩
    rw [chain_succ, chain_succ]
    rcases nextV_lt hO hy comb with h | ⟨j, h, hj⟩
    · rw [h, restV_end, restV_end]
    · rw [h, restV_at, restV_at, ih f' (by omega) j (by omega) (by omega)]
      by_cases hy0 : y = f'
      · rw [hy0, ih f' (by omega) j (by omega) (by omega)]
      · rw [ih y (by omega) j (by omega) (by omega)]
theorem chain_tail {es : List El} (hO : TreeOk es) (comb : Int) : ∀ (f x : Nat) (a : List Nat) (y : Nat) (b : List Nat), x < es.length → x < f → chain es comb f x = a ++ y :: b → y < es.length ∧ b = if farV comb then aheadV es comb y else [] := by
  intro f
  induction f with
  | zero => intro x a y b _ h; omega
  | succ f ih =>
    intro x a y b hx hf h
    rw [chain_succ] at h
    rcases nextV_lt hO hx comb with hn | ⟨j, hn, hj⟩
    · rw [hn, restV_end] at h
      simp at h
    · rw [hn, restV_at] at h
      cases a with
      | nil =>
        simp only [List.nil_append, List.cons.injEq] at h
        obtain ⟨rfl, rfl⟩ := h
        refine ⟨by omega, ?_⟩
        cases hfar : farV comb with
        | false => simp
        | true => simp only [if_true]; exact chain_fuel hO comb f j (by omega) (by omega)
      | cons z a =>
        simp only [List.cons_append, List.cons.injEq] at h
        obtain ⟨_, h⟩ := h
        cases hfar : farV comb with
        | false => rw [hfar] at h; simp at h
        | true =>
          rw [hfar, if_pos rfl] at h
          have := ih j a y b (by omega) (by omega) h
          rwa [hfar] at this
theorem ahead_tail {es : List El} (hO : TreeOk es) {comb : Int} {e y : Nat} {a b : List Nat} (he : e < es.length) (h : aheadV es comb e = a ++ y :: b) : y < es.length ∧ b = if farV comb then aheadV es comb y else [] :=
  chain_tail hO comb (e + 1) e a y b he (Nat.lt_succ_self _) h
theorem ahead_next {es : List El} (hO : TreeOk es) {comb : Int} {e : Nat} (he : e < es.length) : aheadV es comb e = if nextV es comb e = -1 then [] else (nextV es comb e).toNat :: (if farV comb then aheadV es comb (nextV es comb e).toNat else []) := by
  unfold aheadV
  rw [chain_succ]
  rcases nextV_lt hO he comb with hn | ⟨j, hn, hj⟩
  · rw [hn, restV_end, if_pos rfl]
  · rw [hn, restV_at, if_neg (show ¬ ((j : Int) = -1) by omega), Int.toNat_natCast]
    cases hfar : farV comb with
    | false => rfl
    | true => simp only [if_true]; rw [chain_fuel hO comb e j (by omega) (by omega)]

end Go.Proofs.Ytcdimmabnklcnaa.Mt

/- The document's own tree, as matching reads it; last. -/
namespace Go.Proofs.Ytcdimmabnklcnaa.Rf
open Go Go.RowKit Dm

/-- A tree of the document's, as it lies in memory, and what its elements are. -/
structure TE where
  b : Nat
  tb : Nat
  nv : Value
  dv : Value
  ns : List Nv
  ds : List Int
  es : List El
structure TE.At (T : TE) (W : World) : Prop where
  tr : RTr T.b W T.tb T.nv T.dv T.ns T.ds
  tells : Tells T.es T.ns T.ds
  ok : TreeOk T.es
  len : T.es.length ≤ 4096
  small : ∀ n ∈ T.ns, ∀ p ∈ n.nd.ats, p.2.size ≤ 1099511627776
theorem TE.At.next {T : TE} {W X : World} (h : T.At W) (hb : Below W.heap.size W X) : T.At X := ⟨h.tr.next hb, h.tells, h.ok, h.len, h.small⟩
abbrev TE.p (T : TE) : Value := .pointer (some ⟨T.tb, 0, none⟩)

theorem is_any (T : TE) (e : Int) (w : World) (hT : T.At w) : Calls Try.prog 19 #[T.p, .int .i64 e] w fun x w' => x = .returned (.bool (decide (0 ≤ e ∧ e < (T.es.length : Int)))) ∧ w' = w := by
  have h := refIs_any T.b T.tb T.nv T.dv T.ns T.ds e w hT.tr
  rw [hT.tells.len.1] at h
  exact h
theorem parent_any (T : TE) (e : Int) (w : World) (hT : T.At w) : Calls Try.prog 75 #[T.p, .int .i64 e] w fun x w' => x = .returned (.int .i64 (parentV T.es e)) ∧ w' = w := refParent_any T.b T.tb T.nv T.dv T.ns T.ds T.es e w hT.tr hT.tells
theorem before_any (T : TE) (e : Int) (w : World) (hT : T.At w) : Calls Try.prog 76 #[T.p, .int .i64 e] w fun x w' => x = .returned (.int .i64 (beforeV T.es e)) ∧ ∃ n, w' = w.drewN n := refBefore_any T.b T.tb T.nv T.dv T.ns T.ds T.es e w hT.tr hT.tells hT.ok hT.len
theorem place_any (T : TE) (e : Int) (w : World) (hT : T.At w) : Calls Try.prog 92 #[T.p, .int .i64 e] w fun x w' => x = .returned (.int .i64 (placeV T.es e)) ∧ ∃ n, w' = w.drewN n := refPlace_any T.b T.tb T.nv T.dv T.ns T.ds T.es e w hT.tr hT.tells hT.ok hT.len
theorem children_any (T : TE) (e : Int) (w : World) (hT : T.At w) : Calls Try.prog 94 #[T.p, .int .i64 e] w fun x w' => ∃ v', x = .returned v' ∧ IntRow w.heap.size w' v' (chI (childrenV T.es e)) ∧ Below w.heap.size w w' := refChildren_any T.b T.tb T.nv T.dv T.ns T.ds T.es e w hT.tr hT.tells hT.ok hT.len
theorem below_drawn (w : World) (n : Nat) : Below w.heap.size w (w.drewN n) := ⟨rfl, rfl, rfl, Nat.le_refl _, fun _ _ => rfl⟩

set_option maxRecDepth 100000 in
set_option maxHeartbeats 2000000 in
theorem last_any (T : TE) (k : Nat) (w : World) (hT : T.At w) (hk : k < T.es.length) :
    Calls Try.prog 93 #[T.p, .int .i64 k] w fun x w' => x = .returned (.bool (Mt.lastV T.es k)) ∧ ∃ n, w' = w.drewN n := by
  obtain ⟨V, hV⟩ : ∃ V, Mt.lastV T.es k = V := ⟨_, rfl⟩
  rw [hV]
  unfold Mt.lastV at hV
  have hlen := hT.len
  have hnl := hT.tells.len.1
  by_cases hk0 : k = 0
  · subst hk0
    obtain rfl : true = V := by rw [← hV, par_root hT.ok hk]; rfl
    obtain ⟨⟨c0, _⟩, _⟩ := blk2 hT.tr.blk
    clear hV hT hnl
    go_enter Try.func93, Try.ntmps93
    go_wp2
    go_loopw [5] (fun y wr => y = .int .i64 1 ∧ wr = w) (fun _ _ => 0)
    case atStart => exact ⟨by go_num, rfl⟩
    case round =>
      obtain ⟨rfl, rfl⟩ := hrel
      go_wp2
      go_ret
      exact ⟨rfl, 0, rfl⟩
  · obtain ⟨p, hp, hpk⟩ := par_lt hT.ok hk (by omega)
    obtain ⟨qp, hqp⟩ : ∃ q, T.es[p]? = some q := ⟨_, List.getElem?_eq_getElem (by omega)⟩
    have hch : childrenV T.es (p : Int) = kidsTo T.es p T.es.length := by rw [children_at hqp, kids_all hT.ok hqp]
    have hpl := place_kids hT.ok hk hp
    rw [hp, hch, hpl, decide_eq_false (by omega), Bool.false_or] at hV
    have hk1 : (kidsTo T.es p (k + 1)).length = (kidsTo T.es p k).length + 1 := by rw [kids_next, if_pos hp]; simp
    have HV : Hid (V = decide ((kidsTo T.es p (k + 1)).length = (kidsTo T.es p T.es.length).length)) := by
      show _ = _
      rw [← hV, hk1]
      congr 1
      rw [eq_iff_iff]
      omega
    have HSP : Hid (∀ i, k < i → i < T.es.length → kidsTo T.es p i = kidsTo T.es p (k + 1) → parentV T.es (i : Int) = (p : Int) → V = false) := fun i _ h2 h3 h4 => by
      obtain ⟨r, hr⟩ := kids_split h4 T.es.length h2
      rw [HV.out, hr, h3]
      exact decide_eq_false (by simp)
    have HT : Hid (T.At w) := hT
    obtain ⟨nk, hnk⟩ : ∃ n, T.ns[k]? = some n := ⟨_, List.getElem?_eq_getElem (by omega)⟩
    obtain ⟨qk, hqk, hqnk, _⟩ := hT.tells.at hnk
    have hpark : nk.nd.parent = (p : Int) := by rw [← hqnk, ← par_at hqk]; exact hp
    have hkd : decide ((0 : Int) < (k : Int)) = true := by simp; omega
    have hkd2 : decide (0 < k) = true := by simp; omega
    obtain ⟨L, hL⟩ : ∃ L, T.es.length = L := ⟨_, rfl⟩
    have HL : Hid (T.es.length = L) := hL
    rw [hL] at hlen hk hnl HV HSP
    clear hV hT hch hpl hqp hL hk1
    go_enter Try.func93, Try.ntmps93
    go_wp2
    go_loopw [5] (fun y wr => ∃ i : Nat, y = .int .i64 i ∧ k < i ∧ i ≤ L ∧ Hid (kidsTo T.es p i = kidsTo T.es p (k + 1)) ∧ ∃ n, wr = w.drewN n) (fun y _ => L - (intOf y).toNat)
    case atStart => exact ⟨k + 1, by go_num, by omega, by omega, rfl, 0, rfl⟩
    case round =>
      obtain ⟨i, rfl, hki, hiL, HK, m, rfl⟩ := hrel
      have hTr := HT.out.tr
      obtain ⟨⟨c0, _⟩, _⟩ := blk2 hTr.blk
      by_cases hlt : i < L
      · have hii : (i : Int) < (L : Int) := by omega
        have hid : decide ((i : Int) < (L : Int)) = true := by simp; omega
        have hid2 : decide (i < L) = true := by simp; omega
        obtain ⟨ni, hni⟩ : ∃ n, T.ns[i]? = some n := ⟨_, List.getElem?_eq_getElem (by omega)⟩
        obtain ⟨qi, hqi, hqn, _⟩ := HT.out.tells.at hni
        have hpar : parentV T.es (i : Int) = ni.nd.parent := by rw [par_at hqi, hqn]
        have hnx := kids_next T.es p i
        rw [hpar, HK.out] at hnx
        obtain ⟨g, c, hg, hr1, hr2, x0, _⟩ := hTr.get hni
        rw [hg] at c0
        obtain ⟨g', c', hgc, _, _, y0, _⟩ := hTr.get hnk
        rw [hg] at hgc
        cases hgc
        rw [hpark] at y0
        unfold maxLen at hr2
        rw [hnl] at c0 hr1
        have hkl : (k : Int) < (L : Int) := by omega
        have hi1 : (i : Int) + 1 ≤ 9223372036854775807 := by omega
        by_cases hpe : ni.nd.parent = (p : Int)
        · obtain rfl : V = false := HSP.out i hki hlt HK.out (hpar.trans hpe)
          rw [hpe] at x0
          clear hTr hni hqi hqn hpar hnx hpe hnk hqk hqnk hpark HSP HV HK hg hlt hki hiL hlen hk hnl hp hpk hk0 hr1
          go_wp2
          go_quiet (fail)
          go_wp2
          go_ret
          exact ⟨rfl, _, by first | rfl | (simp; rfl)⟩
        · rw [if_neg hpe, List.append_nil] at hnx
          have HNX : Hid (_ = _) := hnx
          have hne : (ni.nd.parent == (p : Int)) = false := by simpa using hpe
          generalize ni.nd.parent = pn at *
          have HB : Hid (k < i + 1 ∧ i + 1 ≤ L) := ⟨by omega, by omega⟩
          clear hTr hni hqi hqn hpar hnx hnk hqk hqnk hpark hg HK hlt hki hiL hlen hk hnl hp hpk hk0 hr1 hpe
          go_wp2
          go_quiet (fail)
          go_wp2
          exact ⟨⟨i + 1, by go_num, HB.out.1, HB.out.2, HNX.out, _, by first | rfl | (simp; rfl)⟩, by have := HB.out; simp [intOf]; omega⟩
      · have hii : decide ((i : Int) < (L : Int)) = false := by simp; omega
        have hii2 : decide (i < L) = false := by simp; omega
        obtain ⟨⟨pn, cn, hnv⟩, _⟩ := hTr.form
        rw [hnv, hnl] at c0
        obtain rfl : V = true := by
          have h1 := HK.out
          rw [show i = L by omega] at h1
          rw [HV.out, h1]
          exact decide_eq_true rfl
        clear hTr HSP HV HK hnv
        go_wp2
        go_ret
        exact ⟨rfl, m, rfl⟩

end Go.Proofs.Ytcdimmabnklcnaa.Rf
