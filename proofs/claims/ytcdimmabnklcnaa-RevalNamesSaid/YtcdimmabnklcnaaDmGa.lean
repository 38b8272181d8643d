/- package dom: kept: a node as a tree keeps it, in new memory. -/
import Derived.Test.YtcdimmabnklcnaaDmGf
import Derived.Below
import Derived.WalkKit
import Derived.Shelf.RegionOpen
import Derived.Deep.RegionHeldLaw
import Derived.Test.YtcdimmabnklcnaaRgn
namespace Go.Proofs.Ytcdimmabnklcnaa.Dm
open Go Go.RowKit Go.Shelf

/-- A node under way: its five cells, its rows in blocks of their own. -/
structure Und (b : Nat) (W : World) (B : Nat) (n : Nd) (cv av : Value) : Prop where
  blk : Blk W B 33 (nvCells ⟨n, cv, av⟩)
  cls : StrRow b W cv n.cls
  ats : PairRow b W av n.ats

theorem bcell {W w1 : World} (hb : Below W.heap.size W w1) : (∀ b o, b < W.heap.size → w1.cell? ⟨b, o, none⟩ = W.cell? ⟨b, o, none⟩) ∧ (∀ b o, b < W.heap.size → w1.frozen? ⟨b, o, none⟩ = W.frozen? ⟨b, o, none⟩) :=
  ⟨fun b o h => hb.cell (p := ⟨b, o, none⟩) h, fun b o h => hb.frozen (p := ⟨b, o, none⟩) h⟩
/-- Behind an append of a class, and the store: the node has one class more. -/
theorem push_cls {n B g7 c7 k : Nat} {w7 : World} {a b c d v : Value} {l : List ByteArray} {s : ByteArray} (hB : Blk w7 B 33 [a, b, c, v, d]) (hl : l.length = k)
    (hr : w7.ownsRow n 9 1 (.slice (some ⟨g7, 0, none⟩) (k + 1) c7) (k + 1) (l.map Value.string ++ [.string s])) :
    StrRow n (w7.setCell ⟨B, 3, none⟩ (.slice (some ⟨g7, 0, none⟩) (k + 1) c7)) (.slice (some ⟨g7, 0, none⟩) (k + 1) c7) (l ++ [s]) ∧ Blk (w7.setCell ⟨B, 3, none⟩ (.slice (some ⟨g7, 0, none⟩) (k + 1) c7)) B 33 [a, b, c, .slice (some ⟨g7, 0, none⟩) (k + 1) c7, d] := by
  have hne := row_blk (e := 9) (t := 33) (by decide) hr hB
  refine ⟨?_, blk_put hB 3 _⟩
  unfold StrRow
  rw [List.length_append, List.length_singleton, hl, List.map_append]
  exact hr.kept (grown_set w7 B 3 _) (.inr hne)
/-- Behind an append of an attribute, and the store. -/
theorem push_ats {n B g7 c7 k : Nat} {w7 : World} {a b c d v : Value} {l : List (ByteArray × ByteArray)} {s : ByteArray × ByteArray} (hB : Blk w7 B 33 [a, b, c, d, v]) (hl : l.length = k)
    (hr : w7.ownsRow n 50 2 (.slice (some ⟨g7, 0, none⟩) (k + 1) c7) (k + 1) (l.flatMap paCells ++ [.string s.1, .string s.2])) :
    PairRow n (w7.setCell ⟨B, 4, none⟩ (.slice (some ⟨g7, 0, none⟩) (k + 1) c7)) (.slice (some ⟨g7, 0, none⟩) (k + 1) c7) (l ++ [s]) ∧ Blk (w7.setCell ⟨B, 4, none⟩ (.slice (some ⟨g7, 0, none⟩) (k + 1) c7)) B 33 [a, b, c, d, .slice (some ⟨g7, 0, none⟩) (k + 1) c7] := by
  have hne := row_blk (e := 50) (t := 33) (by decide) hr hB
  refine ⟨?_, blk_put hB 4 _⟩
  unfold PairRow
  rw [List.length_append, List.length_singleton, hl, List.flatMap_append]
  exact hr.kept (grown_set w7 B 4 _) (.inr hne)
theorem take_more {α : Type} {l : List α} {k : Nat} (h : k < l.length) : l.take (k + 1) = l.take k ++ [l[k]] := List.take_succ_eq_append_getElem h

end Go.Proofs.Ytcdimmabnklcnaa.Dm

/- A tree of package dom in memory. -/
namespace Go.Proofs.Ytcdimmabnklcnaa.Dm
open Go Go.RowKit

/-- An element in memory: the values of its three slices. -/
structure Em where
  e : El
  cv : Value
  av : Value
  hv : Value
def emCells (q : Em) : List Value := [.int .i64 q.e.nd.parent, .string q.e.nd.tag, .string q.e.nd.id, q.cv, q.av, .int .i64 q.e.depth, .int .i64 q.e.place, q.hv]
theorem emCells_len (q : Em) : (emCells q).length = 8 := rfl
def chI (l : List Nat) : List Int := l.map (fun k : Nat => (k : Int))
theorem chI_len (l : List Nat) : (chI l).length = l.length := by simp [chI]
theorem set_at {α : Type} {l : List α} {p j : Nat} {x y : α} (h : (l.set p x)[j]? = some y) : (j = p ∧ y = x) ∨ (j ≠ p ∧ l[j]? = some y) := by
  rw [List.getElem?_set] at h
  by_cases e : p = j
  · rw [if_pos e] at h
    split at h
    · exact .inl ⟨e.symm, by simpa using h.symm⟩
    · cases h
  · rw [if_neg e] at h
    exact .inr ⟨fun h' => e h'.symm, h⟩
theorem shape_of {w : World} {base : Nat} {e : TypeId} {size : Nat} {v : Value} {n : Nat} {xs : List Value} (h : w.ownsRow base e size v (n + 1) xs) : ∃ g cap, v = .slice (some ⟨g, 0, none⟩) (n + 1) cap := by
  rcases h.2 with ⟨_, h0⟩ | ⟨g, cap, cur, rfl, _⟩
  · cases h0
  · exact ⟨g, cap, rfl⟩
end Go.Proofs.Ytcdimmabnklcnaa.Dm

/- package dom: has, add. -/
namespace Go.Proofs.Ytcdimmabnklcnaa.Dm
open Go Go.RowKit

theorem slice_one {X : World} {b : Nat} {e : TypeId} {s : Nat} {v : Value} {n : Nat} {xs : List Value} (h : X.ownsRow b e s v n xs) : v.oneCell' = true := by
  obtain ⟨q, c, rfl⟩ := owns_form h
  rfl
theorem emOne {X Y : World} {b c : Nat} {p d m : Int} {t i : ByteArray} {cv av : Value} {l : List ByteArray} {a : List (ByteArray × ByteArray)} (hc : StrRow b X cv l) (ha : PairRow c Y av a) : ∀ u ∈ ([.int .i64 p, .string t, .string i, cv, av, .int .i64 d, .int .i64 m, .slice none 0 0] : List Value), u.oneCell' = true := fun u hu => by
  simp only [List.mem_cons, List.not_mem_nil, or_false] at hu
  rcases hu with rfl | rfl | rfl | rfl | rfl | rfl | rfl | rfl
  · rfl
  · rfl
  · rfl
  · exact slice_one hc
  · exact slice_one ha
  · rfl
  · rfl
  · rfl
def elVal (n : Nd) (cv av : Value) (d p : Int) : Value := .agg #[.int .i64 n.parent, .string n.tag, .string n.id, cv, av, .int .i64 d, .int .i64 p, .slice none 0 0]

theorem getD_some {l : List El} {k : Nat} {q : El} (h : l[k]? = some q) : l.getD k zeroEl = q := by simp [List.getD, h]

end Go.Proofs.Ytcdimmabnklcnaa.Dm

/- package dom: what a tree tells of its elements. -/
namespace Go.Proofs.Ytcdimmabnklcnaa.Dm
open Go Go.RowKit

/-- The element that is asked for, or none. -/
def elAt (es : List El) (e : Int) : Option El := if 0 ≤ e ∧ e < es.length then es[e.toNat]? else none
def parentV (es : List El) (e : Int) : Int := ((elAt es e).map fun q => q.nd.parent).getD (-1)
def depthV (es : List El) (e : Int) : Int := ((elAt es e).map fun q => (q.depth : Int)).getD 0
def placeV (es : List El) (e : Int) : Int := ((elAt es e).map fun q => (q.place : Int)).getD 0
def childrenV (es : List El) (e : Int) : List Nat := ((elAt es e).map fun q => q.ch).getD []
theorem elAt_no {es : List El} {e : Int} (h : ¬ (0 ≤ e ∧ e < es.length)) : elAt es e = none := by unfold elAt; rw [if_neg h]
theorem elAt_yes {es : List El} {k : Nat} {q : El} (h : es[k]? = some q) : elAt es (k : Int) = some q := by
  have hk : k < es.length := (List.getElem?_eq_some_iff.1 h).1
  unfold elAt
  rw [if_pos ⟨by omega, by omega⟩, Int.toNat_natCast]
  exact h
theorem map_at {qs : List Em} {k : Nat} {q : Em} (h : qs[k]? = some q) : (qs.map Em.e)[k]? = some q.e := by rw [List.getElem?_map, h]; rfl
theorem dec_map (qs : List Em) (e : Int) : (0 ≤ e ∧ e < (qs.length : Int)) ↔ (0 ≤ e ∧ e < ((qs.map Em.e).length : Int)) := by rw [List.length_map]

end Go.Proofs.Ytcdimmabnklcnaa.Dm

/- slices.Clone; what a tree tells of its elements' children and nodes. -/
namespace Go.Proofs.Ytcdimmabnklcnaa.Dm
open Go Go.RowKit

theorem eqInNilStr (d : Nat) (w : World) (p : Option Addr) (n c : Nat) : (Op.equalIn (d + 1) 30 (.slice p n c) (.slice none 0 0)).run Try.prog w = .ok p.isNone w := by
  cases p <;> simp [Op.equalIn, run_underlying Try.underlying30]
theorem eqlNilStr (w : World) (p : Option Addr) (n c : Nat) : (binOp .eql 30 (.slice p n c) (.slice none 0 0)).run Try.prog w = .ok (.bool p.isNone) w := by
  simp only [binOp]
  simp [show Op.equal 30 (.slice p n c) (.slice none 0 0) = Op.equalIn (9999 + 1) 30 (.slice p n c) (.slice none 0 0) from rfl, eqInNilStr 9999 w p n c]
theorem eqInNilPair (d : Nat) (w : World) (p : Option Addr) (n c : Nat) : (Op.equalIn (d + 1) 31 (.slice p n c) (.slice none 0 0)).run Try.prog w = .ok p.isNone w := by
  cases p <;> simp [Op.equalIn, run_underlying Try.underlying31]
theorem eqlNilPair (w : World) (p : Option Addr) (n c : Nat) : (binOp .eql 31 (.slice p n c) (.slice none 0 0)).run Try.prog w = .ok (.bool p.isNone) w := by
  simp only [binOp]
  simp [show Op.equal 31 (.slice p n c) (.slice none 0 0) = Op.equalIn (9999 + 1) 31 (.slice p n c) (.slice none 0 0) from rfl, eqInNilPair 9999 w p n c]
theorem eqInNilInt (d : Nat) (w : World) (p : Option Addr) (n c : Nat) : (Op.equalIn (d + 1) 51 (.slice p n c) (.slice none 0 0)).run Try.prog w = .ok p.isNone w := by
  cases p <;> simp [Op.equalIn, run_underlying Try.underlying51]
theorem eqlNilInt (w : World) (p : Option Addr) (n c : Nat) : (binOp .eql 51 (.slice p n c) (.slice none 0 0)).run Try.prog w = .ok (.bool p.isNone) w := by
  simp only [binOp]
  simp [show Op.equal 51 (.slice p n c) (.slice none 0 0) = Op.equalIn (9999 + 1) 51 (.slice p n c) (.slice none 0 0) from rfl, eqInNilInt 9999 w p n c]
end Go.Proofs.Ytcdimmabnklcnaa.Dm

/- package dom: Children, Node, sibling, Before. -/
namespace Go.Proofs.Ytcdimmabnklcnaa.Dm
open Go Go.RowKit

theorem mono_base {b b' : Nat} {W : World} {v : Value} {l : List Int} (h : IntRow b W v l) (hb : b' ≤ b) : IntRow b' W v l := owns_base h hb

def nthI (l : List Nat) (i : Int) : Int := if 0 ≤ i ∧ i < (l.length : Int) then ((l.getD i.toNat 0 : Nat) : Int) else -1
theorem nthI_yes {l : List Nat} {i c : Nat} (h : l[i]? = some c) : nthI l (i : Int) = (c : Int) := by
  have hi : i < l.length := (List.getElem?_eq_some_iff.1 h).1
  unfold nthI
  rw [if_pos ⟨by omega, by omega⟩, Int.toNat_natCast]
  simp [List.getD, h]
theorem nthI_no {l : List Nat} {i : Int} (h : ¬ (0 ≤ i ∧ i < (l.length : Int))) : nthI l i = -1 := by unfold nthI; rw [if_neg h]
/-- The child of the parent that stands so many places behind. -/
def sibV (es : List El) (k : Nat) (d : Int) : Int := if (es.getD k zeroEl).nd.parent = -1 then -1 else nthI (childrenV es (es.getD k zeroEl).nd.parent) (((es.getD k zeroEl).place : Int) - 1 + d)
theorem sibV_at {es : List El} {k : Nat} {q : El} (h : es[k]? = some q) (d : Int) : sibV es k d = if q.nd.parent = -1 then -1 else nthI (childrenV es q.nd.parent) ((q.place : Int) - 1 + d) := by
  unfold sibV
  rw [show es.getD k zeroEl = q by simp [List.getD, h]]

/-- The child of its parent right ahead. -/
def beforeV (es : List El) (e : Int) : Int := if 0 ≤ e ∧ e < (es.length : Int) then sibV es e.toNat (-1) else -1

def nodeV (es : List El) (e : Int) : Nd := ((elAt es e).map fun q => q.nd).getD zeroNd
/-- What Node leaves. -/
def Noded (n : Nd) (w : World) (x : Ending) (w' : World) : Prop := ∃ cv av, x = .returned (ndVal n cv av) ∧ StrRow w.heap.size w' cv n.cls ∧ PairRow w.heap.size w' av n.ats ∧ Below w.heap.size w w'


end Go.Proofs.Ytcdimmabnklcnaa.Dm

/- package dom: New, at every slice of nodes. -/
namespace Go.Proofs.Ytcdimmabnklcnaa.Dm
open Go Go.RowKit

theorem newF_drop {es : List El} {l : List Nd} {k : Nat} {n : Nd} (h : l[k]? = some n) : newF es (l.drop k) = match addV es n with
    | .ok es' => newF es' (l.drop (k + 1))
    | .error x => .error x := by
  obtain ⟨hk, rfl⟩ := List.getElem?_eq_some_iff.1 h
  rw [List.drop_eq_getElem_cons hk]
  rfl
theorem addV_err {es : List El} {n : Nd} {x : Int} (h : addV es n = .error x) : x = 10 ∨ x = 11 := by
  unfold addV at h
  split at h
  · split at h
    · cases h
    · cases h; exact .inl rfl
  · split at h
    · split at h
      · cases h; exact .inr rfl
      · cases h
    · cases h; exact .inl rfl
end Go.Proofs.Ytcdimmabnklcnaa.Dm
