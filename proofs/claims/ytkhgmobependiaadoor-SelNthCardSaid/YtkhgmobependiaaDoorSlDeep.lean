/- Plain facts: lists of not and is within each other: the text of SelDeep, its tokens, and what they are read as. -/
import Derived.Test.YtkhgmobependiaaDoorSlTx
import Derived.Test.YtkhgmobependiaaDoorSlSpec
namespace Go.Proofs.YtkhgmobependiaaDoor.Sl
open Go.Proofs.YtkhgmobependiaaDoor.Tre
open Go Go.RowKit

def deepP : Bool → List UInt8
  | true => [58, 105, 115, 40, 32]
  | false => [58, 110, 111, 116, 40]
/-- The text of k lists. -/
def deepS (up : List Bool) : Nat → List UInt8
  | 0 => [97]
  | k + 1 => deepP (up[k]?.getD false) ++ deepS up k ++ [41]
theorem deepP_len (b : Bool) : (deepP b).length = 5 := by cases b <;> rfl
theorem deepS_len (up : List Bool) : ∀ k, (deepS up k).length = 1 + 6 * k
  | 0 => rfl
  | k + 1 => by
    have := deepS_len up k
    simp only [deepS, List.length_append, deepP_len, List.length_cons, List.length_nil, this]
    omega
def plainU (u : UInt8) : Prop := u.toNat < 128 ∧ u.toNat ≠ 13 ∧ u.toNat ≠ 12 ∧ u.toNat ≠ 0
theorem deepP_small (b : Bool) : ∀ u ∈ deepP b, plainU u := by
  cases b <;> (intro u hu; simp only [deepP, List.mem_cons, List.not_mem_nil, or_false] at hu; rcases hu with rfl | rfl | rfl | rfl | rfl <;> (unfold plainU; decide))
theorem deepS_small (up : List Bool) : ∀ k, ∀ u ∈ deepS up k, plainU u
  | 0 => fun u hu => by
    simp only [deepS, List.mem_cons, List.not_mem_nil, or_false] at hu
    subst hu
    unfold plainU
    decide
  | k + 1 => fun u hu => by
    simp only [deepS, List.mem_append, List.mem_cons, List.not_mem_nil, or_false] at hu
    rcases hu with (hu | hu) | rfl
    · exact deepP_small _ u hu
    · exact deepS_small up k u hu
    · unfold plainU
      decide
def closeT : Bt := ⟨17, ⟨#[]⟩, 0, false, 0⟩
def colonT : Bt := ⟨11, ⟨#[]⟩, 0, false, 0⟩
def whiteT : Bt := ⟨9, ⟨#[]⟩, 0, false, 0⟩
def funT : Bool → Bt
  | true => ⟨20, ⟨#[105, 115]⟩, 0, false, 0⟩
  | false => ⟨20, ⟨#[110, 111, 116]⟩, 0, false, 0⟩
def whT : Bool → List Bt
  | true => [whiteT]
  | false => []
def deepT (up : List Bool) : Nat → List Bt → List Bt
  | 0, R => ⟨1, ⟨#[97]⟩, 0, false, 0⟩ :: R
  | k + 1, R => colonT :: funT (up[k]?.getD false) :: (whT (up[k]?.getD false) ++ deepT up k (closeT :: R))
theorem deepT_len (up : List Bool) : ∀ k R, R.length + 1 ≤ (deepT up k R).length ∧ (deepT up k R).length ≤ R.length + 1 + 4 * k
  | 0, R => by simp [deepT]
  | k + 1, R => by
    have := deepT_len up k (closeT :: R)
    simp only [List.length_cons] at this
    have hw : (whT (up[k]?.getD false)).length ≤ 1 := by cases up[k]?.getD false <;> decide
    simp only [deepT, List.length_cons, List.length_append]
    omega
def Tl (x : List Int) : Prop := x = [] ∨ ∃ r, x = 41 :: r
theorem ints_head (up : List Bool) (k : Nat) (x : List Int) : isWhite (see (ints (deepS up k) ++ x) 0) = false := by
  cases k with
  | zero => rfl
  | succ k => simp only [deepS]; cases up[k]?.getD false <;> rfl
theorem deep_toks (up : List Bool) : ∀ (k : Nat) (x : List Int), Tl x → (toks Ref.nv (ints (deepS up k) ++ x)).map Ref.btOf = deepT up k ((toks Ref.nv x).map Ref.btOf)
  | 0, x, hx => by
    have h : toks Ref.nv (97 :: [] ++ x) = ⟨1, 97 :: [], 0, false, 0⟩ :: toks Ref.nv x := by
      rcases hx with rfl | ⟨r, rfl⟩
      · exact tk_name Ref.nv (by decide) (by decide) (by decide) (by decide)
      · exact tk_name Ref.nv (by decide) (by rw [see_zero]; decide) (by rw [see_zero]; decide) (by rw [see_zero]; decide)
    have e : ints (deepS up 0) ++ x = 97 :: [] ++ x := rfl
    rw [e, h, List.map_cons]
    exact congrArg (· :: _) (btOf_bytes 1 [97] (by decide))
  | k + 1, x, _ => by
    have ih := deep_toks up k (41 :: x) (.inr ⟨x, rfl⟩)
    have h41 : toks Ref.nv (41 :: x) = ⟨17, [], 0, false, 0⟩ :: toks Ref.nv x := tk_mark Ref.nv (by decide)
    have h58 : ∀ y, toks Ref.nv (58 :: y) = ⟨11, [], 0, false, 0⟩ :: toks Ref.nv y := fun y => tk_mark Ref.nv (by decide)
    rw [h41, List.map_cons] at ih
    have ec : Ref.btOf ⟨17, [], 0, false, 0⟩ = closeT := btOf_bytes 17 [] (by decide)
    have eo : Ref.btOf ⟨11, [], 0, false, 0⟩ = colonT := btOf_bytes 11 [] (by decide)
    have ew : Ref.btOf ⟨9, [], 0, false, 0⟩ = whiteT := btOf_bytes 9 [] (by decide)
    rw [ec] at ih
    simp only [deepS, deepT]
    cases up[k]?.getD false with
    | true =>
      have e : ints (deepP true ++ deepS up k ++ [41]) ++ x = 58 :: (105 :: [115] ++ 40 :: (32 :: [] ++ (ints (deepS up k) ++ 41 :: x))) := by simp [ints, deepP]
      have hw : toks Ref.nv (32 :: [] ++ (ints (deepS up k) ++ 41 :: x)) = ⟨9, [], 0, false, 0⟩ :: toks Ref.nv (ints (deepS up k) ++ 41 :: x) := tk_white Ref.nv (by decide) (ints_head up k _)
      rw [e, h58, tk_fun Ref.nv (by decide), hw]
      simp only [List.map_cons, eo, ew, ih, whT]
      exact congrArg (fun t => colonT :: t :: _) (btOf_bytes 20 [105, 115] (by decide))
    | false =>
      have e : ints (deepP false ++ deepS up k ++ [41]) ++ x = 58 :: (110 :: [111, 116] ++ 40 :: (ints (deepS up k) ++ 41 :: x)) := by simp [ints, deepP]
      rw [e, h58, tk_fun Ref.nv (by decide)]
      simp only [List.map_cons, eo, ih, whT, List.nil_append]
      exact congrArg (fun t => colonT :: t :: _) (btOf_bytes 20 [110, 111, 116] (by decide))
theorem deep_tksB (up : List Bool) (k : Nat) : tksB (deepS up k) = deepT up k [] := by
  rw [tksB_ints (deepS_small up k)]
  have := deep_toks up k [] (.inl rfl)
  rw [List.append_nil, toks_nil] at this
  exact this

/-! ### how they are read -/
def kindD (b : Bool) : Int := if b then 8 else 7
def deepC (up : List Bool) : Nat → Cp
  | 0 => .mk ⟨#[97]⟩ [] [] [] []
  | k + 1 => .mk ⟨#[]⟩ [] [] [] [.mk (kindD (up[k]?.getD false)) 0 0 [[(0, deepC up k)]]]
def TlT (R : List Bt) : Prop := R = [] ∨ ∃ r, R = closeT :: r
theorem tlT_units {R : List Bt} (h : TlT R) (L : Inner) (f : Nat) (c : Cp) : unitsV L (f + 1) c R = some (c, R) := by
  rcases h with rfl | ⟨r, rfl⟩
  · rfl
  · simp [unitsV, begU, isSg, closeT]
theorem tlT_drop {R : List Bt} (h : TlT R) : dropW R = R := by
  rcases h with rfl | ⟨r, rfl⟩
  · rfl
  · simp [dropW, closeT]
theorem tlT_betw {R : List Bt} (h : TlT R) : betwV R = none := by
  rcases h with rfl | ⟨r, rfl⟩
  · rfl
  · simp [betwV, dropW, closeT, combO, isSg]
theorem list_of_comp {up : List Bool} {d k : Nat} {r R : List Bt} (hR : TlT R) (hr : dropW r = deepT up k R) (hc : compV (innerV d) (deepT up k R) = some (deepC up k, R)) : listV d r = some ([[(0, deepC up k)]], R) := by
  have hs : selV (innerV d) r = some ([(0, deepC up k)], R) := by
    unfold selV
    rw [hr]
    simp only [partsV, hc, Option.bind_some, tlT_betw hR, tlT_drop hR, List.nil_append]
  rw [listV_eq]
  simp only [listF, hs, Option.bind_some]
  rcases hR with rfl | ⟨r', rfl⟩
  · rfl
  · simp [closeT]
theorem list_of_none {up : List Bool} {d k : Nat} {r R : List Bt} (hr : dropW r = deepT up k R) (hc : compV (innerV d) (deepT up k R) = none) : listV d r = none := by
  have hs : selV (innerV d) r = none := by
    unfold selV
    rw [hr]
    simp only [partsV, hc, Option.bind_none]
  rw [listV_eq]
  simp only [listF, hs, Option.bind_none]
theorem dropW_deep (up : List Bool) (b : Bool) (k : Nat) (R : List Bt) : dropW (whT b ++ deepT up k R) = deepT up k R := by
  have h0 : dropW (deepT up k R) = deepT up k R := by
    cases k with
    | zero => simp [dropW, deepT]
    | succ k => simp [dropW, deepT, colonT]
  cases b with
  | true => rw [show whT true = [whiteT] from rfl, List.cons_append, List.nil_append]; unfold dropW; rw [List.dropWhile_cons_of_pos (by decide)]; exact h0
  | false => exact h0
theorem pseudo_deep (L : Inner) (b : Bool) (r : List Bt) : pseudoV L (funT b :: r) = listedV L (kindD b) r := by
  cases b with
  | true =>
    have h1 : lowOf (funT true) = isT := by decide
    have h2 : (funT true).kind = 20 := rfl
    simp [pseudoV, h1, h2, kindD, isT, nthT, notT]
  | false =>
    have h1 : lowOf (funT false) = notT := by decide
    have h2 : (funT false).kind = 20 := rfl
    simp [pseudoV, h1, h2, kindD, nthT, notT]
theorem comp_step {L : Inner} {b : Bool} {rest R : List Bt} {l : List Sel} (hL : L rest = some (l, closeT :: R)) (hR : TlT R) (hl : R.length ≤ rest.length) : compV L (colonT :: funT b :: rest) = some (.mk ⟨#[]⟩ [] [] [] [.mk (kindD b) 0 0 l], R) := by
  have hp : pseudoV L (funT b :: rest) = some (.mk (kindD b) 0 0 l, R) := by
    rw [pseudo_deep]
    simp [listedV, hL, closeT]
  have ht : tagV (colonT :: funT b :: rest) = (⟨#[]⟩, colonT :: funT b :: rest) := by simp [tagV, isSg, colonT]
  have hb : begU colonT = true := by decide
  have hu : unitV L (.mk ⟨#[]⟩ [] [] [] []) colonT (funT b :: rest) = some (.mk ⟨#[]⟩ [] [] [] [.mk (kindD b) 0 0 l], R) := by
    have h1 : colonT.kind = 11 := rfl
    simp [unitV, h1, hp, Cp.addPs]
  unfold compV
  rw [ht]
  simp only [List.length_cons, unitsV, hb, if_true, hu, Option.bind_some, tlT_units hR]
  rw [if_pos (by omega)]
theorem comp_stepN {L : Inner} {b : Bool} {rest : List Bt} (hL : L rest = none) : compV L (colonT :: funT b :: rest) = none := by
  have hp : pseudoV L (funT b :: rest) = none := by
    rw [pseudo_deep]
    simp [listedV, hL]
  have ht : tagV (colonT :: funT b :: rest) = (⟨#[]⟩, colonT :: funT b :: rest) := by simp [tagV, isSg, colonT]
  have hb : begU colonT = true := by decide
  have hu : unitV L (.mk ⟨#[]⟩ [] [] [] []) colonT (funT b :: rest) = none := by
    have h1 : colonT.kind = 11 := rfl
    simp [unitV, h1, hp]
  unfold compV
  rw [ht]
  simp only [List.length_cons, unitsV, hb, if_true, hu, Option.bind_none]
theorem comp_deep (up : List Bool) : ∀ (k d : Nat) (R : List Bt), TlT R → k ≤ d → compV (innerV d) (deepT up k R) = some (deepC up k, R)
  | 0, d, R, hR, _ => by
    have ht : tagV (⟨1, ⟨#[97]⟩, 0, false, 0⟩ :: R) = (⟨#[97]⟩, R) := by
      have hlow : lowS ⟨#[97]⟩ = ⟨#[97]⟩ := by decide
      simp [tagV, isSg, hlow]
    unfold compV
    simp only [deepT, deepC]
    rw [ht]
    simp only [tlT_units hR, Option.bind_some]
    exact if_pos (Nat.lt_succ_self _)
  | k + 1, 0, _, _, h => absurd h (by omega)
  | k + 1, d + 1, R, hR, h => by
    have ih := comp_deep up k d (closeT :: R) (.inr ⟨R, rfl⟩) (by omega)
    have hl := list_of_comp (r := whT (up[k]?.getD false) ++ deepT up k (closeT :: R)) (.inr ⟨R, rfl⟩) (dropW_deep up _ k _) ih
    have hlen := (deepT_len up k (closeT :: R)).1
    exact comp_step (L := innerV (d + 1)) hl hR (by simp only [List.length_append, List.length_cons] at *; omega)
theorem comp_deepN (up : List Bool) : ∀ (k d : Nat) (R : List Bt), d < k → compV (innerV d) (deepT up k R) = none
  | 0, _, _, h => absurd h (by omega)
  | k + 1, 0, R, _ => comp_stepN (L := innerV 0) rfl
  | k + 1, d + 1, R, h => by
    have ih := comp_deepN up k d (closeT :: R) (by omega)
    exact comp_stepN (L := innerV (d + 1)) (list_of_none (r := whT (up[k]?.getD false) ++ deepT up k (closeT :: R)) (dropW_deep up _ k _) ih)
theorem deep_parse (up : List Bool) (k : Nat) (hk : k ≤ 20) : parseV (deepT up k []) = if k ≤ 8 then some [[(0, deepC up k)]] else none := by
  have hlen := (deepT_len up k []).2
  unfold parseV
  rw [if_neg (by simp only [List.length_nil] at hlen; omega)]
  by_cases h : k ≤ 8
  · rw [if_pos h, list_of_comp (r := deepT up k []) (R := []) (.inl rfl) (dropW_deep up false k []) (comp_deep up k 8 [] (.inl rfl) h)]
  · rw [if_neg h, list_of_none (r := deepT up k []) (dropW_deep up false k []) (comp_deepN up k 8 [] (by omega))]

end Go.Proofs.YtkhgmobependiaaDoor.Sl
