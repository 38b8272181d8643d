/- Plain facts, no program: the code points of bytes as a list function, how a text is prepared, and that the document's own way (looking ahead) gives the same list. -/
import Derived.Lib.DecodeN
import Derived.Shelf.Unicode.DecodeSlow
import Derived.Shelf.Abstract
import Derived.WalkKit
import Derived.OwnWalkIn
import Derived.TacticsInMore
import Derived.LoopNIn
import Derived.LoopIn
import Derived.Maps.AppendAt
import Derived.Test.YtkhgmobependiaaDoorBsA
import Derived.Test.YtkhgmobependiaaDoorProg
import Derived.Shelf.RegionOpen
import Derived.OwnWalk
import Derived.Deep.QuietTactic
import Derived.BigQuiet
namespace Go.Proofs.YtkhgmobependiaaDoor
open Go Go.Lib

/-- What stands at the head of l: the code point and its width. -/
def dec (l : List UInt8) : Nat × Nat := Lib.decodeGo ⟨l.toArray⟩

theorem get!_eq (l : List UInt8) (j : Nat) : (⟨l.toArray⟩ : ByteArray).get! j = l[j]?.getD 0 := by
  show l.toArray[j]! = _
  rw [getElem!_def]
  simp only [List.getElem?_toArray]
  cases l[j]? <;> rfl

theorem dec_eq {l : List UInt8} (h : l ≠ []) : dec l = decodeN l.length (l[0]?.getD 0).toNat (l[1]?.getD 0).toNat (l[2]?.getD 0).toNat (l[3]?.getD 0).toNat := by
  have hs : (⟨l.toArray⟩ : ByteArray).size = l.length := by simp [ByteArray.size]
  have h0 : l.length ≠ 0 := fun e => h (List.length_eq_zero_iff.1 e)
  unfold dec Lib.decodeGo
  rw [if_neg (by rw [hs]; exact h0), Lib.decode_at, hs]
  simp only [get!_eq, Nat.sub_zero, Nat.zero_add]

theorem decodeN_bounds (n b0 b1 b2 b3 : Nat) (hn : 1 ≤ n) : 1 ≤ (decodeN n b0 b1 b2 b3).2 ∧ (decodeN n b0 b1 b2 b3).2 ≤ n ∧ (decodeN n b0 b1 b2 b3).1 ≤ 1114111 := by
  unfold decodeN
  repeat' split
  all_goals (simp only; omega)

theorem dec_bounds {l : List UInt8} (h : l ≠ []) : 1 ≤ (dec l).2 ∧ (dec l).2 ≤ l.length ∧ (dec l).1 ≤ 1114111 := by
  rw [dec_eq h]
  exact decodeN_bounds _ _ _ _ _ (List.length_pos_iff.2 h)

def ptsF : Nat → List UInt8 → List Nat
  | 0, _ => []
  | f + 1, l => if l = [] then [] else (dec l).1 :: ptsF f (l.drop (dec l).2)

/-- The code points of l. -/
def pts (l : List UInt8) : List Nat := ptsF l.length l

theorem ptsF_more : ∀ (f g : Nat) (l : List UInt8), l.length ≤ f → l.length ≤ g → ptsF f l = ptsF g l
  | 0, 0, _, _, _ => rfl
  | 0, g + 1, l, h, _ => by
    have : l = [] := List.length_eq_zero_iff.1 (by omega)
    subst this; simp [ptsF]
  | f + 1, 0, l, _, h => by
    have : l = [] := List.length_eq_zero_iff.1 (by omega)
    subst this; simp [ptsF]
  | f + 1, g + 1, l, h1, h2 => by
    unfold ptsF
    by_cases e : l = []
    · simp [e]
    · have := dec_bounds e
      rw [if_neg e, if_neg e, ptsF_more f g _ (by simp; omega) (by simp; omega)]

@[simp] theorem pts_nil : pts [] = [] := rfl
theorem pts_cons {l : List UInt8} (h : l ≠ []) : pts l = (dec l).1 :: pts (l.drop (dec l).2) := by
  have hp := List.length_pos_iff.2 h
  obtain ⟨f, hf⟩ : ∃ f, l.length = f + 1 := ⟨l.length - 1, by omega⟩
  have := dec_bounds h
  unfold pts
  rw [hf]
  conv => lhs; unfold ptsF
  rw [if_neg h, ptsF_more f _ _ (by simp; omega) (Nat.le_refl _)]

theorem pts_len : ∀ (f : Nat) (l : List UInt8), l.length ≤ f → (pts l).length ≤ l.length
  | 0, l, h => by
    have : l = [] := List.length_eq_zero_iff.1 (by omega)
    subst this; simp
  | f + 1, l, h => by
    by_cases e : l = []
    · simp [e]
    · have hb := dec_bounds e
      rw [pts_cons e]
      have := pts_len f (l.drop (dec l).2) (by simp; omega)
      simp at this ⊢
      omega
theorem pts_length_le (l : List UInt8) : (pts l).length ≤ l.length := pts_len _ l (Nat.le_refl _)

theorem pts_le : ∀ (f : Nat) (l : List UInt8), l.length ≤ f → ∀ p ∈ pts l, p ≤ 1114111
  | 0, l, h => by
    have : l = [] := List.length_eq_zero_iff.1 (by omega)
    subst this; simp
  | f + 1, l, h => by
    by_cases e : l = []
    · simp [e]
    · have hb := dec_bounds e
      rw [pts_cons e]
      intro p hp
      rcases List.mem_cons.1 hp with rfl | hp
      · omega
      · exact pts_le f (l.drop (dec l).2) (by simp; omega) p hp

/-! ### Prepared -/
/-- What stands for one point. -/
def repl (p : Int) : Int := if p = 13 ∨ p = 12 then 10 else if p = 0 then 65533 else p
/-- Was the last one a 13? -/
def cr (l : List Int) : Bool := l.getLast? == some 13
/-- The points prepared, as they come. -/
def prepFrom : Bool → List Int → List Int
  | _, [] => []
  | c, p :: t => if c = true ∧ p = 10 then prepFrom (p == 13) t else repl p :: prepFrom (p == 13) t
def prep (l : List Int) : List Int := prepFrom false l

theorem prepFrom_snoc (p : Int) : ∀ (l : List Int) (c : Bool), prepFrom c (l ++ [p]) = prepFrom c l ++ (if (if l = [] then c else cr l) = true ∧ p = 10 then [] else [repl p])
  | [], c => by
    by_cases h : c = true ∧ p = 10 <;> simp [prepFrom, h]
  | q :: t, c => by
    have ih := prepFrom_snoc p t (q == 13)
    have hc : (if t = [] then (q == 13) else cr t) = cr (q :: t) := by
      cases t with
      | nil => simp [cr]
      | cons a b => simp [cr, List.getLast?_cons_cons]
    rw [hc] at ih
    simp only [List.cons_append, prepFrom, ih]
    by_cases h : c = true ∧ q = 10 <;> simp [h]

theorem prep_hit (pre : List Int) {x : Int} (h : cr pre = true ∧ x = 10) : prep (pre ++ [x]) = prep pre := by
  unfold prep
  rw [prepFrom_snoc]
  have hn : pre ≠ [] := fun e => by rw [e] at h; simp [cr] at h
  simp [hn, h]
theorem prep_miss (pre : List Int) {x : Int} (h : ¬ (cr pre = true ∧ x = 10)) : prep (pre ++ [x]) = prep pre ++ [repl x] := by
  unfold prep
  rw [prepFrom_snoc]
  by_cases hn : pre = []
  · simp [hn]
  · simp only [hn, if_false]
    rw [if_neg h]
@[simp] theorem cr_snoc (pre : List Int) (x : Int) : cr (pre ++ [x]) = (x == 13) := by
  rw [Bool.eq_iff_iff]
  simp [cr]
theorem prepFrom_len : ∀ (l : List Int) (c : Bool), (prepFrom c l).length ≤ l.length
  | [], c => by simp [prepFrom]
  | p :: t, c => by
    have := prepFrom_len t (p == 13)
    simp only [prepFrom]
    split <;> simp <;> omega
theorem prep_length_le (l : List Int) : (prep l).length ≤ l.length := prepFrom_len l false

/-- The code points of l, as integers. -/
def ipts (l : List UInt8) : List Int := (pts l).map Int.ofNat
theorem ipts_length_le (l : List UInt8) : (ipts l).length ≤ l.length := by unfold ipts; rw [List.length_map]; exact pts_length_le l
theorem ipts_nil : ipts [] = [] := rfl
theorem ipts_cons {l : List UInt8} (h : l ≠ []) : ipts l = ((dec l).1 : Int) :: ipts (l.drop (dec l).2) := by unfold ipts; rw [pts_cons h]; rfl

end Go.Proofs.YtkhgmobependiaaDoor

/- The iterator text.decoded, at every slice of bytes: it tells the code points of the bytes, one by one, and keeps nothing of its own in memory. -/
namespace Go.Proofs.YtkhgmobependiaaDoor
open Go Go.RowKit Go.Shelf
attribute [local go_sem] Oper.semAt_some

/-- THE SLICE VALUE v HOLDS THE BYTES l, in a block below n₀. -/
def BytesAt (n₀ : Nat) (W : World) (v : Value) (l : List UInt8) : Prop :=
  (l = [] ∧ (v = .slice none 0 0 ∨ ∃ x cap, v = .slice (some x) 0 cap)) ∨ ∃ bk off cap, v = .slice (some ⟨bk, off, none⟩) l.length cap ∧ l.length ≤ cap ∧ cap ≤ maxLen ∧ bk < n₀ ∧ ∀ j u, l[j]? = some u → W.cell? ⟨bk, off + j, none⟩ = some (.int .u8 u.toNat)

theorem BytesAt.cases {n₀ : Nat} {X : World} {v : Value} {l : List UInt8} (h : BytesAt n₀ X v l) :
    (l = [] ∧ ∃ p cap, v = .slice p 0 cap) ∨ ∃ bk off cap, v = .slice (some ⟨bk, off, none⟩) l.length cap ∧ l.length ≤ cap ∧ cap ≤ maxLen ∧ bk < n₀ ∧ ∀ j u, l[j]? = some u → X.cell? ⟨bk, off + j, none⟩ = some (.int .u8 u.toNat) := by
  rcases h with ⟨h1, rfl | ⟨x, cap, rfl⟩⟩ | h
  · exact .inl ⟨h1, _, _, rfl⟩
  · exact .inl ⟨h1, _, _, rfl⟩
  · exact .inr h
theorem BytesAt.below {n₀ : Nat} {X Y : World} {v : Value} {l : List UInt8} (h : BytesAt n₀ X v l) (hb : Below n₀ X Y) : BytesAt n₀ Y v l := by
  rcases h with h | ⟨bk, off, cap, rfl, hc, hm, hbk, h⟩
  · exact .inl h
  · exact .inr ⟨bk, off, cap, rfl, hc, hm, hbk, fun j u hj => (hb.cell (p := ⟨bk, off + j, none⟩) hbk).trans (h j u hj)⟩
theorem BytesAt.mono {n₀ n₁ : Nat} {X : World} {v : Value} {l : List UInt8} (h : BytesAt n₀ X v l) (hn : n₀ ≤ n₁) : BytesAt n₁ X v l := by
  rcases h with h | ⟨bk, off, cap, rfl, hc, hm, hbk, h⟩
  · exact .inl h
  · exact .inr ⟨bk, off, cap, rfl, hc, hm, by omega, h⟩

end Go.Proofs.YtkhgmobependiaaDoor

/- The iterator text.prepared over whatever iterator tells integers: it tells the same, prepared; it keeps two variables in memory. -/
namespace Go.Proofs.YtkhgmobependiaaDoor
open Go Go.RowKit Go.Shelf
attribute [local go_sem] Oper.semAt_some

/-- In the wide fence a round's contract stands at whatever depth, in a round or out of one. -/
theorem roundAny {n m l' l : Nat} {f : FuncId} {tmps : Array Value} {assign body : Code} {w : World} {R : Ending → World → Prop} (h : RoundIn Fence.wide n Tryd.prog l f tmps assign body w R) :
    RoundIn (Fence.wide.inRound l') m Tryd.prog l f tmps assign body w R := ⟨h.1, fun c cs _ => h.2 c cs (fun d hd => by cases hd)⟩

theorem follows : Tryd.prog.follows .mixedOrders = true := by kernel_rfl

end Go.Proofs.YtkhgmobependiaaDoor

/- text.gather over whatever iterator tells at most as many integers as there is room for; text.Points and text.Prepare at every slice of bytes. -/
namespace Go.Proofs.YtkhgmobependiaaDoor
open Go Go.RowKit Go.Shelf
attribute [local go_sem] Oper.semAt_some

theorem infoInt : (Tryd.prog.info? 3).map (fun i => (i.zero, i.size, i.bytes)) = some (some (.int .i64 0), 1, 8) := by kernel_rfl

theorem owns_base {X : World} {b b' : Nat} {e : TypeId} {size : Nat} {v : Value} {m : Nat} {xs : List Value} (h : X.ownsRow b e size v m xs) (hb : b' ≤ b) : X.ownsRow b' e size v m xs := by
  refine ⟨h.1, ?_⟩
  rcases h.2 with h2 | ⟨g, cap, cur, hv, hg, rest⟩
  · exact .inl h2
  · exact .inr ⟨g, cap, cur, hv, Nat.le_trans hb hg, rest⟩

theorem BytesAt.len {n₀ : Nat} {X : World} {v : Value} {l : List UInt8} (h : BytesAt n₀ X v l) : ∃ p cap, v = .slice p l.length cap ∧ v.oneCell' = true := by
  rcases h.cases with ⟨rfl, p, cap, rfl⟩ | ⟨bk, off, cap, rfl, _⟩
  · exact ⟨_, _, rfl, rfl⟩
  · exact ⟨_, _, rfl, rfl⟩

end Go.Proofs.YtkhgmobependiaaDoor

/- The document's example: text.Prepare of the bytes 13, 10, 65 is 10, 65 (the laws' own 'alive'), in every world that holds the library's tables. -/
namespace Go.Proofs.YtkhgmobependiaaDoor
open Go Go.RowKit Go.Shelf

/-- A slice that owns xs (elements of one cell): its cells hold xs. -/
theorem owns_cells {X : World} {b : Nat} {e : TypeId} {v : Value} {m : Nat} {xs : List Value} (h : X.ownsRow b e 1 v m xs) :
    (v = .slice none 0 0 ∧ m = 0 ∧ xs = []) ∨ ∃ g cap, v = .slice (some ⟨g, 0, none⟩) m cap ∧ m ≤ cap ∧ cap ≤ maxLen ∧ b ≤ g ∧ g < X.heap.size ∧ ∀ j u, xs[j]? = some u → X.cell? ⟨g, 0 + j, none⟩ = some u := by
  rcases h.2 with ⟨hv, hm⟩ | ⟨g, cap, cur, hv, hg, hb, h1, h2, h3, h4⟩
  · exact .inl ⟨hv, hm, List.length_eq_zero_iff.1 (by rw [h.1, hm])⟩
  · refine .inr ⟨g, cap, hv, h1, h2, hg, (Array.getElem?_eq_some_iff.1 hb).1, fun j u hj => ?_⟩
    rw [← h4, Nat.mul_one, List.getElem?_take] at hj
    split at hj
    · simp only [World.cell?, hb, Nat.zero_add]
      simpa using hj
    · cases hj

theorem cell_of_block {X : World} {g : Nat} {cur : Array Value} {t : TypeId} {fz : Nat × Nat} (h : X.heap[g]? = some (.cells cur t fz)) (j : Nat) : X.cell? ⟨g, j, none⟩ = cur[j]? := by
  unfold World.cell?
  rw [h]
  rfl

end Go.Proofs.YtkhgmobependiaaDoor

/- tapestrierref9.SameInts at two slices of integers; the document's own Points and Prepare at every slice of bytes. -/
namespace Go.Proofs.YtkhgmobependiaaDoor
open Go Go.RowKit Go.Shelf

/-- A row that the call owns holds its integers. -/
theorem IntsAt.of_owns {X : World} {b : Nat} {e : TypeId} {v : Value} {l : List Int} {m : Nat} (h : X.ownsRow b e 1 v m (l.map (Value.int .i64))) (hm : m = l.length) : IntsAt X.heap.size X v l := by
  subst hm
  rcases owns_cells h with ⟨rfl, h2, h3⟩ | ⟨g, cap, rfl, h1, h2, h3, h4, h5⟩
  · exact .inl ⟨by simpa using h3, .inl rfl⟩
  · exact .inr ⟨g, 0, cap, rfl, h1, h2, h4, fun j u hj => h5 j _ (by rw [List.getElem?_map, hj]; rfl)⟩


end Go.Proofs.YtkhgmobependiaaDoor
