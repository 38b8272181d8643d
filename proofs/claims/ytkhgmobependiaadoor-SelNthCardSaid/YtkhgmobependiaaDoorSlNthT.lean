/- Plain facts: the texts of a child's number, their tokens, and what they are read as. -/
import Derived.Test.YtkhgmobependiaaDoorSlAtT
import Derived.Test.YtkhgmobependiaaDoorBsD
namespace Go.Proofs.YtkhgmobependiaaDoor.Sl
open Go.Proofs.YtkhgmobependiaaDoor.Tre
open Go Go.RowKit

/-! ### digits -/
def sgB (n : Int) : List UInt8 := if n < 0 then [45] else []
/-- The text of a number, as Go prints it. -/
def intB (n : Int) : List UInt8 := sgB n ++ Lib.decDigits n.natAbs
theorem dig_int {u : UInt8} (h : Nm.dig u = true) : isDigit (u.toNat : Int) = true := by
  have := Nm.dig_iff.1 h
  exact isDigit_iff.2 (by omega)
theorem dec_ints (m : Nat) : (ints (Lib.decDigits m)).all isDigit = true := by
  rw [List.all_eq_true]
  intro c hc
  obtain ⟨u, hu, rfl⟩ := List.mem_map.1 hc
  exact dig_int (List.all_eq_true.1 (Nm.dec_dig m) u hu)
theorem dec_ne (m : Nat) : ints (Lib.decDigits m) ≠ [] := fun e => Nm.dec_some m (List.map_eq_nil_iff.1 e)
theorem sgB_is (n : Int) : isSgn (ints (sgB n)) := by
  unfold sgB
  split
  · exact .inr (.inl rfl)
  · exact .inl rfl
theorem intB_plain (n : Int) : ∀ u ∈ intB n, 43 ≤ u.toNat ∧ u.toNat ≤ 57 := by
  intro u hu
  rcases List.mem_append.1 hu with hu | hu
  · unfold sgB at hu
    split at hu
    · rcases List.mem_singleton.1 hu with rfl
      decide
    · cases hu
  · have := Nm.dig_iff.1 (List.all_eq_true.1 (Nm.dec_dig _) u hu)
    omega
theorem intB_head (n : Int) (x : List Int) : isWhite (see (ints (intB n) ++ x) 0) = false := by
  have hp := intB_plain n
  cases h : intB n with
  | nil =>
    have h2 : Lib.decDigits n.natAbs = [] := (List.append_eq_nil_iff.1 h).2
    exact absurd h2 (Nm.dec_some _)
  | cons u r =>
    have := hp u (by rw [h]; exact List.mem_cons_self ..)
    exact isWhite_no (c := (u.toNat : Int)) (by omega)
theorem nv_int {n : Int} (h1 : -100000 ≤ n) (h2 : n ≤ 100000) : Ref.nv (ints (intB n)) = n * 1000 := by
  have e : Nm.mag (n.natAbs * 1000) = Lib.decDigits n.natAbs := by
    unfold Nm.mag Nm.frac
    rw [show n.natAbs * 1000 / 1000 = n.natAbs by omega, if_pos (by omega), List.append_nil]
  unfold Ref.nv
  rw [encs_of _ (fun u hu => by have := intB_plain n u hu; omega)]
  unfold intB sgB
  rw [← e]
  obtain ⟨b1, b2⟩ := Nm.bare_mag (n.natAbs * 1000)
  by_cases h : n < 0
  · rw [if_pos h, List.singleton_append]
    obtain ⟨k1, k2⟩ := Nm.num_mag (l := 45 :: Nm.mag (n.natAbs * 1000)) (by omega) rfl
    rw [Nm.numN_down k1 rfl, k2]
    omega
  · rw [if_neg h, List.nil_append]
    obtain ⟨k1, k2⟩ := Nm.num_mag (m := n.natAbs * 1000) (by omega) b2
    rw [Nm.numN_up k1 b1, k2]
    omega

/-! ### tokens -/
theorem toks_num (nv : List Int → Int) {t x : List Int} {w : Bool} (hb : begNum (t ++ x) = true) (hne : t ++ x ≠ []) (ht : numText (t ++ x) = (t, x, w)) (h1 : begName x = false) (h2 : see x 0 ≠ 37) : toks nv (t ++ x) = ⟨6, [], nv t, w, 0⟩ :: toks nv x := by
  refine toks_step nv ?_ hne
  rw [step_num nv hb]
  unfold numeric
  rw [ht]
  simp only
  rw [h1, if_neg (by decide), if_neg h2]
def numT (v : Int) (w : Bool) : Bt := ⟨6, ⟨#[]⟩, v, w, 0⟩
theorem btOf_num (v : Int) (w : Bool) : Ref.btOf ⟨6, [], v, w, 0⟩ = numT v w := rfl
theorem tk_int {n : Int} (h1 : -100000 ≤ n) (h2 : n ≤ 100000) {x : List Int} (hx : isDigit (see x 0) = false) (hp : pointed x = false) (hn : begName x = false) (h37 : see x 0 ≠ 37) : tk (ints (intB n) ++ x) = numT (n * 1000) true :: tk x := by
  have e : ints (intB n) = ints (sgB n) ++ ints (Lib.decDigits n.natAbs) := ints_app _ _
  show (toks Ref.nv _).map Ref.btOf = _
  rw [toks_num Ref.nv (t := ints (intB n)) (x := x) (w := true) (by rw [e]; exact begNum_parts (sgB_is n) (dec_ne _) (dec_ints _) x) (by rw [e]; simp [dec_ne]) (by rw [e]; exact numText_flat (sgB_is n) (dec_ne _) (dec_ints _) hx hp) hn h37, nv_int h1 h2, List.map_cons, btOf_num]
theorem tk_half (n : Int) {x : List Int} (hx : isDigit (see x 0) = false) (hn : begName x = false) (h37 : see x 0 ≠ 37) : ∃ v, tk (ints (intB n) ++ 46 :: 53 :: x) = numT v false :: tk x := by
  have e : ints (intB n) = ints (sgB n) ++ ints (Lib.decDigits n.natAbs) := ints_app _ _
  have e2 : ints (intB n) ++ 46 :: 53 :: x = (ints (sgB n) ++ ints (Lib.decDigits n.natAbs) ++ 46 :: [53]) ++ x := by rw [e]; simp
  have hnt : numText ((ints (sgB n) ++ ints (Lib.decDigits n.natAbs) ++ 46 :: [53]) ++ x) = (ints (sgB n) ++ ints (Lib.decDigits n.natAbs) ++ 46 :: [53], x, false) := by
    have := numText_deep (f := [53]) (x := x) (sgB_is n) (dec_ne n.natAbs) (dec_ints _) (by simp) (by decide) hx
    rw [List.append_assoc (ints (sgB n) ++ _) (46 :: [53]) x]
    exact this
  have hb : begNum ((ints (sgB n) ++ ints (Lib.decDigits n.natAbs) ++ 46 :: [53]) ++ x) = true := by
    rw [List.append_assoc (ints (sgB n) ++ _) (46 :: [53]) x]
    exact begNum_parts (sgB_is n) (dec_ne _) (dec_ints _) _
  refine ⟨Ref.nv (ints (sgB n) ++ ints (Lib.decDigits n.natAbs) ++ 46 :: [53]), ?_⟩
  show (toks Ref.nv _).map Ref.btOf = _
  rw [e2, toks_num Ref.nv hb (by simp) hnt hn h37, List.map_cons, btOf_num]
theorem tk_letters {l : List UInt8} (hl : (ints l).all letter = true) (h0 : l ≠ []) (hb : ∀ u ∈ l, u.toNat < 128) {x : List Int} (hx : After x) : tk (ints l ++ x) = txT 1 l :: tk x := by
  cases l with
  | nil => exact absurd rfl h0
  | cons u r =>
    show (toks Ref.nv ((u.toNat : Int) :: ints r ++ x)).map Ref.btOf = _
    rw [tk_name Ref.nv (show ((u.toNat : Int) :: ints r).all letter = true from hl) hx.1 hx.2.1 hx.2.2, List.map_cons]
    exact congrArg (· :: _) (btOf_bytes 1 (u :: r) hb)
theorem tk_fn {u : UInt8} {r : List UInt8} (hs : letter (u.toNat : Int) = true) (hl : (ints (u :: r)).all namePt = true) (hb : ∀ y ∈ u :: r, y.toNat < 128) (x : List Int) : tk (ints (u :: r) ++ 40 :: x) = txT 20 (u :: r) :: tk x := by
  have hn := name_run (x := 40 :: x) (name_stop (by rw [see_zero]; decide) (escAt_no (by rw [see_zero]; decide))) (ints (u :: r)) hl
  have e : toks Ref.nv (ints (u :: r) ++ 40 :: x) = ⟨20, ints (u :: r), 0, false, 0⟩ :: toks Ref.nv x := by
    refine toks_step Ref.nv ?_ (by simp)
    have e1 : ints (u :: r) ++ 40 :: x = (u.toNat : Int) :: (ints r ++ 40 :: x) := rfl
    rw [e1] at hn ⊢
    rw [step_start Ref.nv _ (letter_start hs), hn, if_pos (by rw [see_zero])]
    rfl
  show (toks Ref.nv _).map Ref.btOf = _
  rw [e, List.map_cons]
  exact congrArg (· :: _) (btOf_bytes 20 (u :: r) hb)
theorem tk_colon (x : List Int) : tk (58 :: x) = colonT :: tk x := by
  show (toks Ref.nv _).map Ref.btOf = _
  rw [tk_mark Ref.nv (by omega), List.map_cons]
  rfl
theorem tk_close : tk [41] = [closeT] := by
  show (toks Ref.nv _).map Ref.btOf = _
  rw [tk_mark Ref.nv (by omega), toks_nil, List.map_cons]
  rfl
theorem tk_sp {x : List Int} (hx : isWhite (see x 0) = false) : tk (32 :: x) = whiteT :: tk x := by
  have ew : Ref.btOf ⟨9, [], 0, false, 0⟩ = whiteT := btOf_bytes 9 [] (by decide)
  show (toks Ref.nv (32 :: [] ++ x)).map Ref.btOf = _
  rw [tk_white Ref.nv (by decide) hx, List.map_cons, ew]

/-! ### the texts -/
def nthU : List UInt8 := [78, 84, 72, 45, 99, 104, 105, 108, 100]
def nthL : List UInt8 := [110, 116, 104, 45, 99, 104, 105, 108, 100]
def fullB (s : List UInt8) : List UInt8 := 58 :: (nthU ++ 40 :: 32 :: (s ++ [32, 41]))
def halfB (s : List UInt8) : List UInt8 := 58 :: (nthL ++ 40 :: (s ++ [46, 53, 41]))
def bareB : List UInt8 := 58 :: (nthL ++ [40, 41])
theorem full_tks {s : List UInt8} {mid : Bt} (hp : ∀ u ∈ s, plainU u) (hw : isWhite (see (ints s ++ [32, 41]) 0) = false) (ht : tk (ints s ++ [32, 41]) = mid :: tk [32, 41]) : tksB (fullB s) = [colonT, txT 20 nthU, whiteT, mid, whiteT, closeT] := by
  have hpl : ∀ u ∈ fullB s, plainU u := by
    intro u hu
    simp only [fullB, nthU, List.mem_cons, List.mem_append, List.not_mem_nil, or_false] at hu
    rcases hu with h | (h | h | h | h | h | h | h | h | h) | h | h | h | h | h
    all_goals first | exact hp u h | (subst h; unfold plainU; decide)
  have e : ints (fullB s) = 58 :: (ints nthU ++ 40 :: 32 :: (ints s ++ [32, 41])) := by simp [fullB, ints]
  rw [tksB_ints hpl, e]
  show tk _ = _
  rw [tk_colon, show nthU = 78 :: [84, 72, 45, 99, 104, 105, 108, 100] from rfl, tk_fn (by decide) (by decide) (by decide), tk_sp hw, ht, tk_sp (by decide), tk_close]
theorem half_tks (n : Int) : ∃ v, tksB (halfB (intB n)) = [colonT, txT 20 nthL, numT v false, closeT] := by
  obtain ⟨v, hv⟩ := tk_half n (x := [41]) (by decide) (by decide) (by decide)
  refine ⟨v, ?_⟩
  have hpl : ∀ u ∈ halfB (intB n), plainU u := by
    intro u hu
    simp only [halfB, nthL, List.mem_cons, List.mem_append, List.not_mem_nil, or_false] at hu
    rcases hu with h | (h | h | h | h | h | h | h | h | h) | h | h | h | h | h
    all_goals first | (have := intB_plain n u h; unfold plainU; omega) | (subst h; unfold plainU; decide)
  have e : ints (halfB (intB n)) = 58 :: (ints nthL ++ 40 :: (ints (intB n) ++ 46 :: 53 :: [41])) := by simp [halfB, ints]
  rw [tksB_ints hpl, e]
  show tk _ = _
  rw [tk_colon, show nthL = 110 :: [116, 104, 45, 99, 104, 105, 108, 100] from rfl, tk_fn (by decide) (by decide) (by decide), hv, tk_close]
theorem bare_tks : tksB bareB = [colonT, txT 20 nthL, closeT] := by
  have e : ints bareB = 58 :: (ints nthL ++ 40 :: [41]) := by simp [bareB, ints]
  rw [tksB_ints (show ∀ u ∈ bareB, plainU u by unfold plainU; decide), e]
  show tk _ = _
  rw [tk_colon, show nthL = 110 :: [116, 104, 45, 99, 104, 105, 108, 100] from rfl, tk_fn (by decide) (by decide) (by decide), tk_close]
theorem int_tks {n : Int} (h1 : -100000 ≤ n) (h2 : n ≤ 100000) : tksB (fullB (intB n)) = [colonT, txT 20 nthU, whiteT, numT (n * 1000) true, whiteT, closeT] :=
  full_tks (fun u hu => by have := intB_plain n u hu; unfold plainU; omega) (intB_head n _) (tk_int h1 h2 (by decide) (by decide) (by decide) (by decide))
def oddB : List UInt8 := [79, 100, 68]
def evenB : List UInt8 := [101, 118, 101, 110]
theorem odd_tks : tksB (fullB oddB) = [colonT, txT 20 nthU, whiteT, txT 1 oddB, whiteT, closeT] :=
  full_tks (by unfold plainU; decide) (by decide) (tk_letters (by decide) (by decide) (by decide) (by unfold After; decide))
theorem even_tks : tksB (fullB evenB) = [colonT, txT 20 nthU, whiteT, txT 1 evenB, whiteT, closeT] :=
  full_tks (by unfold plainU; decide) (by decide) (tk_letters (by decide) (by decide) (by decide) (by unfold After; decide))

/-! ### how they are read -/
theorem ab_int (n : Int) : abV (numT (n * 1000) true) = some (0, n) := by
  have h : (n * 1000).tdiv 1000 = n := Int.mul_tdiv_cancel _ (by decide)
  simp [abV, numT, h]
theorem ab_half (v : Int) : abV (numT v false) = none := by simp [abV, numT]
theorem ab_odd : abV (txT 1 oddB) = some (2, 1) := by decide
theorem ab_even : abV (txT 1 evenB) = some (2, 0) := by decide
theorem low_nth : lowOf (txT 20 nthU) = nthT ∧ lowOf (txT 20 nthL) = nthT := by decide
theorem comp_nth {L : Inner} {nm : List UInt8} {r : List Bt} (hnm : lowOf (txT 20 nm) = nthT) {a b : Int} (h : nthV r = some (a, b, [])) : compV L (colonT :: txT 20 nm :: r) = some (.mk ⟨#[]⟩ [] [] [] [.mk 6 a b []], []) := by
  have hp : pseudoV L (txT 20 nm :: r) = some (.mk 6 a b [], []) := by
    have h2 : (txT 20 nm).kind = 20 := rfl
    simp [pseudoV, h2, hnm, h]
  have ht : tagV (colonT :: txT 20 nm :: r) = (⟨#[]⟩, colonT :: txT 20 nm :: r) := by simp [tagV, isSg, colonT]
  have hb : begU colonT = true := by decide
  have hu : unitV L (.mk ⟨#[]⟩ [] [] [] []) colonT (txT 20 nm :: r) = some (.mk ⟨#[]⟩ [] [] [] [.mk 6 a b []], []) := by
    have h1 : colonT.kind = 11 := rfl
    simp [unitV, h1, hp, Cp.addPs]
  unfold compV
  rw [ht]
  simp only [List.length_cons, unitsV, hb, if_true, hu, Option.bind_some]
  rw [if_pos (by simp)]
theorem comp_nthN {L : Inner} {nm : List UInt8} {r : List Bt} (hnm : lowOf (txT 20 nm) = nthT) (h : nthV r = none) : compV L (colonT :: txT 20 nm :: r) = none := by
  have hp : pseudoV L (txT 20 nm :: r) = none := by
    have h2 : (txT 20 nm).kind = 20 := rfl
    simp [pseudoV, h2, hnm, h]
  have ht : tagV (colonT :: txT 20 nm :: r) = (⟨#[]⟩, colonT :: txT 20 nm :: r) := by simp [tagV, isSg, colonT]
  have hb : begU colonT = true := by decide
  have hu : unitV L (.mk ⟨#[]⟩ [] [] [] []) colonT (txT 20 nm :: r) = none := by
    have h1 : colonT.kind = 11 := rfl
    simp [unitV, h1, hp]
  unfold compV
  rw [ht]
  simp only [List.length_cons, unitsV, hb, if_true, hu, Option.bind_none]
theorem list_one {ts : List Bt} (d : Nat) (hd : dropW ts = ts) {c : Option Cp} (hc : ∀ L, compV L ts = c.map fun x => (x, [])) : listV d ts = c.map fun x => ([[(0, x)]], []) := by
  have hs : selV (innerV d) ts = c.map fun x => ([(0, x)], []) := by
    unfold selV
    rw [hd]
    simp only [partsV, hc]
    cases c <;> rfl
  rw [listV_eq]
  simp only [listF, hs]
  cases c <;> rfl
theorem parse_one {ts : List Bt} (hl : ts.length ≤ 1000) (hd : dropW ts = ts) {c : Option Cp} (hc : ∀ L, compV L ts = c.map fun x => (x, [])) : parseV ts = c.map fun x => [[(0, x)]] := by
  unfold parseV
  rw [if_neg (by omega), list_one 8 hd hc]
  cases c <;> rfl
theorem nth_full {mid : Bt} {a b : Int} (h9 : mid.kind ≠ 9) (h : abV mid = some (a, b)) : parseV [colonT, txT 20 nthU, whiteT, mid, whiteT, closeT] = some [[(0, .mk ⟨#[]⟩ [] [] [] [.mk 6 a b []])]] := by
  have hn : nthV [whiteT, mid, whiteT, closeT] = some (a, b, []) := by
    have d1 : dropW [whiteT, mid, whiteT, closeT] = [mid, whiteT, closeT] := by simp [dropW, whiteT, h9]
    have d2 : dropW [whiteT, closeT] = [closeT] := by decide
    unfold nthV
    rw [d1]
    simp only [h, Option.bind_some, d2]
    rfl
  exact parse_one (c := some _) (by simp) (by simp [dropW, colonT]) (fun L => comp_nth low_nth.1 hn)
theorem nth_half (v : Int) : parseV [colonT, txT 20 nthL, numT v false, closeT] = none := by
  have hn : nthV [numT v false, closeT] = none := by
    have d1 : dropW [numT v false, closeT] = [numT v false, closeT] := by simp [dropW, numT]
    unfold nthV
    rw [d1]
    simp only [ab_half, Option.bind_none]
  exact parse_one (c := none) (by simp) (by simp [dropW, colonT]) (fun L => comp_nthN low_nth.2 hn)
theorem nth_bare : parseV [colonT, txT 20 nthL, closeT] = none := by
  have hn : nthV [closeT] = none := by decide
  exact parse_one (c := none) (by simp) (by simp [dropW, colonT]) (fun L => comp_nthN low_nth.2 hn)

end Go.Proofs.YtkhgmobependiaaDoor.Sl
