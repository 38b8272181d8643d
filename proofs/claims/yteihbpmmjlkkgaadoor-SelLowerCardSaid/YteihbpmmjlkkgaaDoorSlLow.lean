/- Plain facts: the text of SelLower with its letters in any case: its tokens and what they are read as. -/
import Derived.Test.YteihbpmmjlkkgaaDoorSlTx
namespace Go.Proofs.YteihbpmmjlkkgaaDoor.Sl
open Go.Proofs.YteihbpmmjlkkgaaDoor.Tre
open Go Go.RowKit

def isL (u : UInt8) : Prop := (97 ≤ u.toNat ∧ u.toNat ≤ 122) ∨ (65 ≤ u.toNat ∧ u.toNat ≤ 90)
theorem isL.letter {u : UInt8} (h : isL u) : letter (u.toNat : Int) = true := letter_iff.2 (by unfold isL at h; omega)
theorem isL.small {u : UInt8} (h : isL u) : u.toNat < 128 ∧ u.toNat ≠ 13 ∧ u.toNat ≠ 12 ∧ u.toNat ≠ 0 := by unfold isL at h; omega
theorem lets2 {a b : UInt8} (ha : isL a) (hb : isL b) : ((a.toNat : Int) :: [(b.toNat : Int)]).all letter = true := by simp [ha.letter, hb.letter]
theorem lets4 {a b c d : UInt8} (ha : isL a) (hb : isL b) (hc : isL c) (hd : isL d) : ((a.toNat : Int) :: [(b.toNat : Int), (c.toNat : Int), (d.toNat : Int)]).all letter = true := by simp [ha.letter, hb.letter, hc.letter, hd.letter]
theorem small2 {a b : UInt8} (ha : isL a) (hb : isL b) : ∀ u ∈ [a, b], u.toNat < 128 := fun u hu => by
  simp at hu
  rcases hu with rfl | rfl
  · exact ha.small.1
  · exact hb.small.1
theorem small4 {a b c d : UInt8} (ha : isL a) (hb : isL b) (hc : isL c) (hd : isL d) : ∀ u ∈ [a, b, c, d], u.toNat < 128 := fun u hu => by
  simp at hu
  rcases hu with rfl | rfl | rfl | rfl
  · exact ha.small.1
  · exact hb.small.1
  · exact hc.small.1
  · exact hd.small.1
variable (nv : List Int → Int)
theorem low_tk {b0 b1 b3 b4 b6 b7 b9 b10 b12 b13 b16 b17 b18 b19 : UInt8} (h0 : isL b0) (h1 : isL b1) (h3 : isL b3) (h4 : isL b4) (h6 : isL b6) (h7 : isL b7) (h9 : isL b9) (h10 : isL b10) (h12 : isL b12) (h13 : isL b13) (h16 : isL b16) (h17 : isL b17) (h18 : isL b18) (h19 : isL b19) :
    toks nv (ints [b0, b1, 35, b3, b4, 46, b6, b7, 91, b9, b10, 61, b12, b13, 93, 58, b16, b17, b18, b19]) = [⟨1, ints [b0, b1], 0, false, 0⟩, ⟨3, ints [b3, b4], 0, false, 0⟩, ⟨10, [], 0, false, 46⟩, ⟨1, ints [b6, b7], 0, false, 0⟩, ⟨18, [], 0, false, 0⟩, ⟨1, ints [b9, b10], 0, false, 0⟩, ⟨10, [], 0, false, 61⟩, ⟨1, ints [b12, b13], 0, false, 0⟩, ⟨19, [], 0, false, 0⟩, ⟨11, [], 0, false, 0⟩, ⟨1, ints [b16, b17, b18, b19], 0, false, 0⟩] := by
  have d6 : isDigit (b6.toNat : Int) = false := isDigit_no (by unfold isL at h6; omega)
  have s11 : toks nv (ints [b16, b17, b18, b19]) = [⟨1, ints [b16, b17, b18, b19], 0, false, 0⟩] := by
    have := tk_name nv (x := []) (lets4 h16 h17 h18 h19) (by decide) (by decide) (by decide)
    rw [List.append_nil, toks_nil] at this
    exact this
  have s10 : toks nv (58 :: ints [b16, b17, b18, b19]) = ⟨11, [], 0, false, 0⟩ :: toks nv (ints [b16, b17, b18, b19]) := tk_mark nv (by decide)
  have s9 : toks nv (93 :: 58 :: ints [b16, b17, b18, b19]) = ⟨19, [], 0, false, 0⟩ :: toks nv (58 :: ints [b16, b17, b18, b19]) := tk_mark nv (by decide)
  have s8 := tk_name nv (x := 93 :: 58 :: ints [b16, b17, b18, b19]) (lets2 h12 h13) (by rw [see_zero]; decide) (by rw [see_zero]; decide) (by rw [see_zero]; decide)
  have s7 : toks nv (61 :: ((b12.toNat : Int) :: [(b13.toNat : Int)] ++ 93 :: 58 :: ints [b16, b17, b18, b19])) = ⟨10, [], 0, false, 61⟩ :: toks nv ((b12.toNat : Int) :: [(b13.toNat : Int)] ++ 93 :: 58 :: ints [b16, b17, b18, b19]) := tk_mark nv (by decide)
  have s6 := tk_name nv (x := 61 :: ((b12.toNat : Int) :: [(b13.toNat : Int)] ++ 93 :: 58 :: ints [b16, b17, b18, b19])) (lets2 h9 h10) (by rw [see_zero]; decide) (by rw [see_zero]; decide) (by rw [see_zero]; decide)
  have s5 : ∀ x, toks nv (91 :: x) = ⟨18, [], 0, false, 0⟩ :: toks nv x := fun x => tk_mark nv (by decide)
  have s4 := fun x => tk_name nv (x := 91 :: x) (lets2 h6 h7) (by rw [see_zero]; decide) (by rw [see_zero]; decide) (by rw [see_zero]; decide)
  have s3 := fun x => tk_dot nv (x := (b6.toNat : Int) :: [(b7.toNat : Int)] ++ x) (by rw [List.cons_append, see_zero]; exact d6)
  have s2 := fun x => tk_hash nv (x := 46 :: x) (lets2 h3 h4) (by rw [see_zero]; decide) (by rw [see_zero]; decide)
  have s1 := fun x => tk_name nv (x := 35 :: x) (lets2 h0 h1) (by rw [see_zero]; decide) (by rw [see_zero]; decide) (by rw [see_zero]; decide)
  rw [s11] at s10
  rw [s10] at s9
  rw [s9] at s8
  rw [s8] at s7
  rw [s7] at s6
  exact (s1 _).trans (congrArg (List.cons _) ((s2 _).trans (congrArg (List.cons _) ((s3 _).trans (congrArg (List.cons _) ((s4 _).trans (congrArg (List.cons _) ((s5 _).trans (congrArg (List.cons _) s6)))))))))
def lowTs (T1 T2 T3 T4 T5 T6 : ByteArray) : List Bt := [⟨1, T1, 0, false, 0⟩, ⟨3, T2, 0, false, 0⟩, ⟨10, ⟨#[]⟩, 0, false, 46⟩, ⟨1, T3, 0, false, 0⟩, ⟨18, ⟨#[]⟩, 0, false, 0⟩, ⟨1, T4, 0, false, 0⟩, ⟨10, ⟨#[]⟩, 0, false, 61⟩, ⟨1, T5, 0, false, 0⟩, ⟨19, ⟨#[]⟩, 0, false, 0⟩, ⟨11, ⟨#[]⟩, 0, false, 0⟩, ⟨1, T6, 0, false, 0⟩]
theorem low_parse {T1 T2 T3 T4 T5 T6 : ByteArray} (h6 : Lw.low T6.data.toList = rootT) : parseV (lowTs T1 T2 T3 T4 T5 T6) = some [[(0, .mk (lowS T1) [T2] [T3] [⟨lowS T4, 1, T5⟩] [.mk 1 0 0 []])]] := by
  have hp : plainV (lowOf ⟨1, T6, 0, false, 0⟩) = some 1 := by unfold lowOf; rw [h6]; rfl
  simp [lowTs, parseV, listV_eq, listF, selV, partsV, compV, unitsV, unitV, tagV, begU, isSg, attrV, dropW, opV, opOf, pseudoV, hp, betwV, Cp.addId, Cp.addClass, Cp.addAttr, Cp.addPs]
theorem low_ofV {b0 b1 b3 b4 b6 b7 b9 b10 b12 b13 b16 b17 b18 b19 : UInt8} (h0 : isL b0) (h1 : isL b1) (h3 : isL b3) (h4 : isL b4) (h6 : isL b6) (h7 : isL b7) (h9 : isL b9) (h10 : isL b10) (h12 : isL b12) (h13 : isL b13) (h16 : isL b16) (h17 : isL b17) (h18 : isL b18) (h19 : isL b19)
    (e1 : Lw.low [b0, b1] = [97, 98]) (e4 : Lw.low [b9, b10] = [103, 104]) (e6 : Lw.low [b16, b17, b18, b19] = rootT) :
    parseV (tksB [b0, b1, 35, b3, b4, 46, b6, b7, 91, b9, b10, 61, b12, b13, 93, 58, b16, b17, b18, b19]) = some [[(0, .mk ⟨#[97, 98]⟩ [⟨#[b3, b4]⟩] [⟨#[b6, b7]⟩] [⟨⟨#[103, 104]⟩, 1, ⟨#[b12, b13]⟩⟩] [.mk 1 0 0 []])]] := by
  rw [tksB_ints (fun u hu => by
    simp only [List.mem_cons, List.not_mem_nil, or_false] at hu
    rcases hu with rfl | rfl | rfl | rfl | rfl | rfl | rfl | rfl | rfl | rfl | rfl | rfl | rfl | rfl | rfl | rfl | rfl | rfl | rfl | rfl
    all_goals first | decide | (apply isL.small; assumption)), low_tk Ref.nv h0 h1 h3 h4 h6 h7 h9 h10 h12 h13 h16 h17 h18 h19]
  simp only [List.map_cons, List.map_nil, btOf_bytes _ _ (small2 h0 h1), btOf_bytes _ _ (small2 h3 h4), btOf_bytes _ _ (small2 h6 h7), btOf_bytes _ _ (small2 h9 h10), btOf_bytes _ _ (small2 h12 h13), btOf_bytes _ _ (small4 h16 h17 h18 h19)]
  refine (low_parse (T1 := ⟨#[b0, b1]⟩) (T2 := ⟨#[b3, b4]⟩) (T3 := ⟨#[b6, b7]⟩) (T4 := ⟨#[b9, b10]⟩) (T5 := ⟨#[b12, b13]⟩) (T6 := ⟨#[b16, b17, b18, b19]⟩) e6).trans ?_
  unfold lowS
  rw [show (⟨#[b0, b1]⟩ : ByteArray).data.toList = [b0, b1] from rfl, show (⟨#[b9, b10]⟩ : ByteArray).data.toList = [b9, b10] from rfl, e1, e4]

end Go.Proofs.YteihbpmmjlkkgaaDoor.Sl
