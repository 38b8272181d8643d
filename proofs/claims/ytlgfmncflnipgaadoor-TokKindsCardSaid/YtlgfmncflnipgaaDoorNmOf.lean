/- num.Of at every string: cutSign, strings.Cut at a point, isNumber; what the world must hold. -/
import Derived.Test.YtlgfmncflnipgaaDoorNmDig
import Derived.Test.YtlgfmncflnipgaaDoorShelf
import Derived.Lib.AppendIntMem
import Derived.Lib.SmallJoins
namespace Go.Proofs.YtlgfmncflnipgaaDoor.Nm
open Go Go.RowKit Go.Shelf

def PowAt (n₀ : Nat) (w : World) : Prop := Lib.TabBelow Tryd.prog n₀ w "internal/strconv.uint64pow10" .u64 Lib.pow10Tab
theorem PowAt.on {n₀ : Nat} {w w' : World} (h : PowAt n₀ w) (hb : Below n₀ w w') : PowAt n₀ w' := Lib.TabBelow.on h hb
theorem PowAt.mono {n₀ n₁ : Nat} {w : World} (h : PowAt n₀ w) (hn : n₀ ≤ n₁) : PowAt n₁ w := fun w' hb => h w' (hb.mono hn)
/-- What the world must hold: a cell of package bytealg that holds some int, and strconv's powers of ten. -/
def Tabs (n₀ : Nat) (w : World) : Prop := 6 < n₀ ∧ (∃ m, w.cell? ⟨6, 0, none⟩ = some (.int .i64 m)) ∧ PowAt n₀ w
theorem Tabs.below {n₀ : Nat} {w w' : World} (h : Tabs n₀ w) (hb : Below n₀ w w') : Tabs n₀ w' :=
  ⟨h.1, h.2.1.elim fun m hm => ⟨m, (hb.cell (p := ⟨6, 0, none⟩) h.1).trans hm⟩, h.2.2.on hb⟩
theorem Tabs.mono {n₀ n₁ : Nat} {w : World} (h : Tabs n₀ w) (hn : n₀ ≤ n₁) : Tabs n₁ w := ⟨by have := h.1; omega, h.2.1, h.2.2.mono hn⟩
theorem Tabs.next {w w' : World} (h : Tabs w.heap.size w) (hb : Below w.heap.size w w') : Tabs w'.heap.size w' := (h.below hb).mono hb.size
theorem below_drewN (w : World) (n : Nat) : Below w.heap.size w (w.drewN n) := ⟨rfl, rfl, rfl, Nat.le_refl _, fun _ _ => rfl⟩

def below (l : List UInt8) : Bool := l.head? == some 45
def lessOne (c : UInt8) (l : List UInt8) : List UInt8 := if l.head? == some c then l.tail else l
def bare (l : List UInt8) : List UInt8 := if below l then l.tail else lessOne 43 l
def numA (l : List UInt8) : List UInt8 := (bare l).takeWhile (· != 46)
def numB (l : List UInt8) : List UInt8 := ((bare l).dropWhile (· != 46)).tail
def numP (l : List UInt8) : Bool := (bare l).any (· == 46)
def isNum (a b : List UInt8) (p : Bool) : Bool := allDig a && allDig b && (if p then !b.isEmpty else !a.isEmpty)
def numV (l : List UInt8) : Int := grown (grown 0 (numA l)) (thou (numB l))
def numOk (l : List UInt8) : Bool := isNum (numA l) (numB l) (numP l)
def numN (l : List UInt8) : Int := if numOk l then (if below l then -numV l else numV l) else 0

theorem pre_one (c : UInt8) (l : List UInt8) : Lib.hasPrefix l [c] = (l.head? == some c) := by
  cases l with
  | nil => rfl
  | cons b l => simp [Lib.hasPrefix, List.isPrefixOf, Bool.beq_comm]
theorem trim_one (c : UInt8) (l : List UInt8) : Lib.trimPrefix l [c] = lessOne c l := by
  unfold Lib.trimPrefix lessOne
  rw [pre_one]
  cases l <;> rfl

theorem cut_one (c : UInt8) : ∀ l : List UInt8, Lib.cut l [c] = (l.takeWhile (· != c), (l.dropWhile (· != c)).tail, l.any (· == c))
  | [] => rfl
  | b :: l => by
    have ih := cut_one c l
    unfold Lib.cut at ih ⊢
    rw [Lib.index_one] at ih ⊢
    have hge := Lib.index_ge l [c]
    rw [Lib.index_one] at hge
    unfold Lib.indexByte
    by_cases h : b = c
    · subst h
      simp
    · have h1 : (b == c) = false := by simp [h]
      have h2 : (b != c) = true := by simp [h]
      by_cases h3 : Lib.indexByte l c = -1
      · rw [h3] at ih ⊢
        simp only [h1, h2, List.takeWhile_cons, List.dropWhile_cons, List.any_cons] at ih ⊢
        simp at ih ⊢
        obtain ⟨i1, i2, i3⟩ := ih
        exact ⟨i1, i2, i3⟩
      · rw [if_pos (by omega)] at ih
        have h4 : (Lib.indexByte l c == -1) = false := by simp [h3]
        simp only [h1, h4, h2, List.takeWhile_cons, List.dropWhile_cons, List.any_cons]
        have e : (Lib.indexByte l c + 1).toNat = (Lib.indexByte l c).toNat + 1 := by omega
        simp only [Bool.false_eq_true, if_false, if_true, Bool.false_or]
        rw [if_pos (by omega), e]
        simp at ih ⊢
        exact ih

theorem cutPre_any (s : ByteArray) (c : UInt8) (w : World) :
    Calls Tryd.prog 83 #[.string s, .string ⟨#[c]⟩] w fun e w' => ∃ r : ByteArray, e = .returned (.tuple #[.string r, .bool (s.data.toList.head? == some c)]) ∧ r.data.toList = lessOne c s.data.toList ∧ w' = w := by
  refine (Tryd.strings_CutPrefix s ⟨#[c]⟩ w).mono ?_
  rintro e w' ⟨rfl, rfl⟩
  exact ⟨_, by rw [show (⟨#[c]⟩ : ByteArray).data.toList = [c] from rfl, pre_one], by rw [trim_one], rfl⟩
theorem trimPre_any (s : ByteArray) (c : UInt8) (w : World) :
    Calls Tryd.prog 84 #[.string s, .string ⟨#[c]⟩] w fun e w' => ∃ r : ByteArray, e = .returned (.string r) ∧ r.data.toList = lessOne c s.data.toList ∧ w' = w := by
  refine (Tryd.strings_TrimPrefix s ⟨#[c]⟩ w).mono ?_
  rintro e w' ⟨rfl, rfl⟩
  exact ⟨_, rfl, by rw [show (⟨#[c]⟩ : ByteArray).data.toList = [c] from rfl, trim_one], rfl⟩
theorem cutDot_any (s : ByteArray) (w : World) (hs : s.size < 4294967281) (hT : Tabs w.heap.size w) :
    Calls Tryd.prog 74 #[.string s, .string ⟨#[46]⟩] w fun e w' => ∃ a b : ByteArray, e = .returned (.tuple #[.string a, .string b, .bool (s.data.toList.any (· == 46))]) ∧ a.data.toList = s.data.toList.takeWhile (· != 46) ∧ b.data.toList = (s.data.toList.dropWhile (· != 46)).tail ∧ Below w.heap.size w w' := by
  obtain ⟨m, hm⟩ := hT.2.1
  refine (Tryd.strings_Cut s ⟨#[46]⟩ m w hs hm).mono ?_
  rintro e w' ⟨rfl, n, rfl⟩
  rw [show (⟨#[46]⟩ : ByteArray).data.toList = [46] from rfl, cut_one]
  exact ⟨_, _, rfl, rfl, rfl, below_drewN w n⟩

set_option maxRecDepth 100000 in
theorem cutSign_any (s : ByteArray) (w : World) :
    Calls Tryd.prog 73 #[.string s] w fun e w' => ∃ r : ByteArray, e = .returned (.tuple #[.bool (below s.data.toList), .string r]) ∧ r.data.toList = bare s.data.toList ∧ w' = w := by
  have h1 := cutPre_any s 45
  have h2 := trimPre_any s 43
  unfold bare
  by_cases h : below s.data.toList = true
  · have h' : (s.data.toList.head? == some 45) = true := h
    rw [h]
    simp only [h', if_true] at h1 ⊢
    have e1 : lessOne 45 s.data.toList = s.data.toList.tail := by unfold lessOne; rw [if_pos h']
    go_enter Tryd.func73, Tryd.ntmps73
    go_wp2_with fail
    refine (h1 _).mono ?_
    rintro e w' ⟨r, rfl, hr, rfl⟩
    go_wp2
    go_ret2
    exact ⟨r, rfl, hr.trans e1, rfl⟩
  · have h := Bool.eq_false_iff.2 h
    have h' : (s.data.toList.head? == some 45) = false := h
    rw [h]
    simp only [h', Bool.false_eq_true, if_false] at h1 ⊢
    go_enter Tryd.func73, Tryd.ntmps73
    go_wp2_with fail
    refine (h1 _).mono ?_
    rintro e w' ⟨r, rfl, hr, rfl⟩
    go_wp2_with fail
    refine (h2 _).mono ?_
    rintro e w' ⟨r', rfl, hr', rfl⟩
    go_wp2
    go_ret2
    exact ⟨r', rfl, hr', rfl⟩

theorem empty_list (a : ByteArray) : a.toList.isEmpty = a.data.toList.isEmpty := by rw [Lib.toList_data]

set_option maxRecDepth 100000 in
theorem isNumber_any (a b : ByteArray) (p : Bool) (w : World) (ha : a.size ≤ 281474976710656) (hb : b.size ≤ 281474976710656) :
    Calls Tryd.prog 75 #[.string a, .string b, .bool p] w fun e w' => e = .returned (.bool (isNum a.data.toList b.data.toList p)) ∧ w' = w := by
  have h1 := fun w => allDigits_any a w ha
  have h2 := fun w => allDigits_any b w hb
  cases e1 : allDig a.data.toList with
  | false =>
    have hv : isNum a.data.toList b.data.toList p = false := by simp [isNum, e1]
    rw [e1] at h1
    rw [hv]
    go_enter Tryd.func75, Tryd.ntmps75
    go_wp2_with fail
    refine (h1 _).mono ?_
    rintro e w' ⟨rfl, rfl⟩
    go_wp2
    go_ret
    exact ⟨rfl, rfl⟩
  | true =>
    rw [e1] at h1
    cases e2 : allDig b.data.toList with
    | false =>
      have hv : isNum a.data.toList b.data.toList p = false := by simp [isNum, e2]
      rw [e2] at h2
      rw [hv]
      go_enter Tryd.func75, Tryd.ntmps75
      go_wp2_with fail
      refine (h1 _).mono ?_
      rintro e w' ⟨rfl, rfl⟩
      go_wp2_with fail
      refine (h2 _).mono ?_
      rintro e w' ⟨rfl, rfl⟩
      go_wp2
      go_ret
      exact ⟨rfl, rfl⟩
    | true =>
      rw [e2] at h2
      have hv : isNum a.data.toList b.data.toList p = (if p then !b.data.toList.isEmpty else !a.data.toList.isEmpty) := by simp [isNum, e1, e2]
      rw [hv]
      cases p with
      | true =>
        simp only [if_true]
        go_enter Tryd.func75, Tryd.ntmps75
        go_wp2_with fail
        refine (h1 _).mono ?_
        rintro e w' ⟨rfl, rfl⟩
        go_wp2_with fail
        refine (h2 _).mono ?_
        rintro e w' ⟨rfl, rfl⟩
        go_wp2
        go_ret
        rw [← empty_list b]
        exact ⟨rfl, rfl⟩
      | false =>
        simp only [Bool.false_eq_true, if_false]
        go_enter Tryd.func75, Tryd.ntmps75
        go_wp2_with fail
        refine (h1 _).mono ?_
        rintro e w' ⟨rfl, rfl⟩
        go_wp2_with fail
        refine (h2 _).mono ?_
        rintro e w' ⟨rfl, rfl⟩
        go_wp2
        go_ret
        rw [← empty_list a]
        exact ⟨rfl, rfl⟩

theorem lessOne_le (c : UInt8) (l : List UInt8) : (lessOne c l).length ≤ l.length := by
  unfold lessOne
  split
  · simp
  · exact Nat.le_refl _
theorem tail_le (t : List UInt8) : ((t.dropWhile (· != 46)).tail).length ≤ t.length := by
  have := (List.dropWhile_sublist (l := t) (· != 46)).length_le
  rw [List.length_tail]
  omega
theorem bare_le (l : List UInt8) : (bare l).length ≤ l.length := by
  unfold bare
  split
  · simp
  · exact lessOne_le 43 l
theorem grown_bounds : ∀ (l : List UInt8) (n : Int), 0 ≤ n → n ≤ 2147483647 → allDig l = true → 0 ≤ grown n l ∧ grown n l ≤ 2147483647
  | [], n, h0, h1, _ => ⟨h0, h1⟩
  | c :: l, n, h0, h1, hd => by
    have hd' : dig c = true ∧ allDig l = true := by simpa [allDig] using hd
    exact grown_bounds l (grow1 n c) (grow1_ge h0 (dig_iff.1 hd'.1).1) (grow1_le n c) hd'.2
theorem thou_dig {l : List UInt8} (h : allDig l = true) : allDig (thou l) = true := by
  unfold thou allDig at *
  rw [List.all_append, Bool.and_eq_true]
  refine ⟨List.all_eq_true.2 fun c hc => List.all_eq_true.1 h c (List.mem_of_mem_take hc), List.all_eq_true.2 fun c hc => ?_⟩
  have := List.mem_of_mem_drop hc
  simp at this
  subst this
  decide
theorem thou_len (l : List UInt8) : (thou l).length = 3 := by
  unfold thou
  rw [List.length_append, List.length_take, List.length_drop]
  simp
  omega

set_option maxRecDepth 100000 in
set_option maxHeartbeats 1000000 in
theorem of_any (s : ByteArray) (w : World) (hs : s.size ≤ 4000000) (hT : Tabs w.heap.size w) :
    Calls Tryd.prog 68 #[.string s] w fun e w' => e = .returned (.tuple #[.int .i64 (numN s.data.toList), .bool (numOk s.data.toList)]) ∧ Below w.heap.size w w' := by
  have h1 := cutSign_any s w
  have hl := len_list s
  have hlen := bare_le s.data.toList
  cases hok : numOk s.data.toList with
  | false =>
    have hn : numN s.data.toList = 0 := by simp [numN, hok]
    rw [hn]
    unfold numOk numA numB numP at hok
    generalize below s.data.toList = bel at *
    generalize bare s.data.toList = t at *
    go_enter Tryd.func68, Tryd.ntmps68
    go_wp2_with fail
    refine h1.mono ?_
    rintro e w' ⟨r, rfl, hr, rfl⟩
    have hrs : r.size ≤ s.size := by rw [← len_list, hr]; omega
    have h2 := cutDot_any r w' (by omega) hT
    rw [hr] at h2
    generalize (t.any fun x => x == 46) = p at *
    go_wp2_with fail
    refine h2.mono ?_
    rintro e w1 ⟨a, b, rfl, ha, hb, b1⟩
    have hla : a.size ≤ r.size := by rw [← len_list, ha, ← len_list r, hr]; exact (List.takeWhile_sublist _).length_le
    have hlb : b.size ≤ r.size := by rw [← len_list, hb, ← len_list r, hr]; exact tail_le t
    have h3 := fun w => isNumber_any a b p w (by omega) (by omega)
    rw [← ha, ← hb] at hok
    rw [hok] at h3
    clear h1 h2 ha hb hr
    go_wp2_with fail
    refine (h3 _).mono ?_
    rintro e w' ⟨rfl, rfl⟩
    go_wp2
    go_ret2
    exact ⟨rfl, b1⟩
  | true =>
    have hn : numN s.data.toList = if below s.data.toList then -numV s.data.toList else numV s.data.toList := by simp [numN, hok]
    generalize numN s.data.toList = v at *
    generalize hz : numV s.data.toList = z at *
    unfold numOk numA numB numP at hok
    unfold numV numA numB at hz
    generalize below s.data.toList = bel at *
    generalize bare s.data.toList = t at *
    go_enter Tryd.func68, Tryd.ntmps68
    go_wp2_with fail
    refine h1.mono ?_
    rintro e w' ⟨r, rfl, hr, rfl⟩
    have hrs : r.size ≤ s.size := by rw [← len_list, hr]; omega
    have h2 := cutDot_any r w' (by omega) hT
    rw [hr] at h2
    generalize (t.any fun x => x == 46) = p at *
    go_wp2_with fail
    refine h2.mono ?_
    rintro e w1 ⟨a, b, rfl, ha, hb, b1⟩
    have hla : a.size ≤ r.size := by rw [← len_list, ha, ← len_list r, hr]; exact (List.takeWhile_sublist _).length_le
    have hlb : b.size ≤ r.size := by rw [← len_list, hb, ← len_list r, hr]; exact tail_le t
    have h3 := fun w => isNumber_any a b p w (by omega) (by omega)
    rw [← ha, ← hb] at hok hz
    rw [hok] at h3
    have hda : allDig a.data.toList = true := by simp [isNum] at hok; exact hok.1.1
    have hdb : allDig b.data.toList = true := by simp [isNum] at hok; exact hok.1.2
    have h4 := fun w => grown_any 0 a w (by omega) (by omega) (by omega) hda
    obtain ⟨g0, g1⟩ := grown_bounds _ 0 (by omega) (by omega) hda
    have h5 := fun w => thousandths_any b w (by omega)
    obtain ⟨g2, g3⟩ := grown_bounds _ _ g0 g1 (thou_dig hdb)
    have h6 := fun (r : ByteArray) (hr : r.data.toList = thou b.data.toList) w => grown_any (grown 0 a.data.toList) r w (by rw [← len_list, hr, thou_len]; omega) g0 g1 (by rw [hr]; exact thou_dig hdb)
    rw [hz] at g2 g3
    clear h1 h2 ha hb hr hok
    go_wp2_with fail
    refine (h3 _).mono ?_
    rintro e w' ⟨rfl, rfl⟩
    go_wp2_with fail
    refine (h4 _).mono ?_
    rintro e w' ⟨rfl, rfl⟩
    go_wp2_with fail
    refine (h5 _).mono ?_
    rintro e w2 ⟨r3, rfl, hr3, b2⟩
    have h7 := h6 r3 hr3
    rw [hr3, hz] at h7
    go_wp2_with fail
    refine (h7 _).mono ?_
    rintro e w' ⟨rfl, rfl⟩
    cases bel with
    | true =>
      simp only [if_true] at hn
      subst hn
      go_wp2
      go_ret2
      exact ⟨rfl, b1.trans (b2.mono b1.size)⟩
    | false =>
      simp only [Bool.false_eq_true, if_false] at hn
      subst hn
      go_wp2
      go_ret2
      exact ⟨rfl, b1.trans (b2.mono b1.size)⟩

end Go.Proofs.YtlgfmncflnipgaaDoor.Nm
