/- What the texts on selectors lean on, over a seat without tokens. -/
import Derived.Test.YtiaomdlfccpcmaaTre
import Derived.Test.YtiaomdlfccpcmaaDcLow
import Derived.WalkKit
import Derived.Below
import Derived.OwnWalk
import Derived.WalkSmall
import Derived.Laws.OwnMore
import Derived.Laws.Rows
import Derived.Laws.IdiomStrings
import Derived.Maps.AppendAt
import Derived.Deep.AppendLies
import Derived.Deep.QuietTactic
import Derived.Deep.RegionWith
import Derived.Deep.DeepCutAuto
import Derived.Deep.CutBlock
import Derived.Deep.RegionHeld
import Derived.Deep.RegionLaw
import Derived.BigQuiet
namespace Go.Proofs.Ytiaomdlfccpcmaa.Sl
open Go.Proofs.Ytiaomdlfccpcmaa.Tre
open Go Go.RowKit

theorem below_drew {n₀ : Nat} {a b : World} (h : Below n₀ a b) : Below n₀ a b.drew := ⟨h.os, h.tape, h.output, h.size, h.block⟩
theorem below_drewN (w : World) (n : Nat) : Below w.heap.size w (w.drewN n) := ⟨rfl, rfl, rfl, Nat.le_refl _, fun _ _ => rfl⟩
theorem below_drewN' {n : Nat} {a b : World} (h : Below n a b) (m : Nat) : Below n a (b.drewN m) := ⟨h.os, h.tape, h.output, h.size, h.block⟩
theorem below_next {w W W' : World} (h : Below w.heap.size w W) (hb : Below W.heap.size W W') : Below w.heap.size w W' := h.trans (hb.mono h.size)
def Blk (W : World) (B : Nat) (t : TypeId) (cs : List Value) : Prop := W.heap[B]? = some (.cells cs.toArray t (0, 0))
theorem Blk.lt {W : World} {B : Nat} {t : TypeId} {cs : List Value} (h : Blk W B t cs) : B < W.heap.size := (Array.getElem?_eq_some_iff.1 h).1
theorem Blk.kept {W W' : World} {row : Option Nat} {B : Nat} {t : TypeId} {cs : List Value} (h : Blk W B t cs) (hg : W.grownBy W' row) (hne : some B ≠ row) : Blk W' B t cs := (hg.block B h.lt hne).trans h
theorem Blk.below {W W' : World} {n : Nat} {B : Nat} {t : TypeId} {cs : List Value} (h : Blk W B t cs) (hb : Below n W W') (hn : B < n) : Blk W' B t cs := (hb.block B hn).trans h
theorem Blk.new (w : World) (t : TypeId) (cs : List Value) : Blk (w.alloc (.cells cs.toArray t)) w.heap.size t cs := heap_alloc_new w _
theorem blk_drew {W : World} {B : Nat} {t : TypeId} {cs : List Value} (h : Blk W B t cs) (n : Nat) : Blk (W.drewN n) B t cs := h
theorem blk1 {W : World} {B : Nat} {t : TypeId} {a : Value} (h : Blk W B t [a]) : W.cell? ⟨B, 0, none⟩ = some a ∧ W.frozen? ⟨B, 0, none⟩ = false := by
  simp [World.cell?, World.frozen?, show W.heap[B]? = _ from h]
theorem blk2 {W : World} {B : Nat} {t : TypeId} {a b : Value} (h : Blk W B t [a, b]) : (W.cell? ⟨B, 0, none⟩ = some a ∧ W.cell? ⟨B, 1, none⟩ = some b) ∧ W.frozen? ⟨B, 0, none⟩ = false ∧ W.frozen? ⟨B, 1, none⟩ = false := by
  simp [World.cell?, World.frozen?, show W.heap[B]? = _ from h]
theorem blk3 {W : World} {B : Nat} {t : TypeId} {a b c : Value} (h : Blk W B t [a, b, c]) : (W.cell? ⟨B, 0, none⟩ = some a ∧ W.cell? ⟨B, 1, none⟩ = some b ∧ W.cell? ⟨B, 2, none⟩ = some c) ∧ W.frozen? ⟨B, 0, none⟩ = false ∧ W.frozen? ⟨B, 1, none⟩ = false ∧ W.frozen? ⟨B, 2, none⟩ = false := by
  simp [World.cell?, World.frozen?, show W.heap[B]? = _ from h]
theorem blk4 {W : World} {B : Nat} {t : TypeId} {a b c d : Value} (h : Blk W B t [a, b, c, d]) : (W.cell? ⟨B, 0, none⟩ = some a ∧ W.cell? ⟨B, 1, none⟩ = some b ∧ W.cell? ⟨B, 2, none⟩ = some c ∧ W.cell? ⟨B, 3, none⟩ = some d) ∧ W.frozen? ⟨B, 0, none⟩ = false ∧ W.frozen? ⟨B, 1, none⟩ = false ∧ W.frozen? ⟨B, 2, none⟩ = false ∧ W.frozen? ⟨B, 3, none⟩ = false := by
  simp [World.cell?, World.frozen?, show W.heap[B]? = _ from h]
theorem blk5 {W : World} {B : Nat} {t : TypeId} {a b c d e : Value} (h : Blk W B t [a, b, c, d, e]) : (W.cell? ⟨B, 0, none⟩ = some a ∧ W.cell? ⟨B, 1, none⟩ = some b ∧ W.cell? ⟨B, 2, none⟩ = some c ∧ W.cell? ⟨B, 3, none⟩ = some d ∧ W.cell? ⟨B, 4, none⟩ = some e) ∧ W.frozen? ⟨B, 0, none⟩ = false ∧ W.frozen? ⟨B, 1, none⟩ = false ∧ W.frozen? ⟨B, 2, none⟩ = false ∧ W.frozen? ⟨B, 3, none⟩ = false ∧ W.frozen? ⟨B, 4, none⟩ = false := by
  simp [World.cell?, World.frozen?, show W.heap[B]? = _ from h]
theorem blk_set1 {W : World} {B : Nat} {t : TypeId} {a : Value} (h : Blk W B t [a]) (a' : Value) : Blk (W.setCell ⟨B, 0, none⟩ a') B t [a'] := by
  unfold Blk at h ⊢
  simp [World.setCell, Array.getElem?_modify, h]
theorem flatten_at {sz : Nat} : ∀ (css : List (List Value)) (j : Nat) (c : List Value), (∀ c ∈ css, c.length = sz) → css[j]? = some c → ∀ i, i < sz → css.flatten[j * sz + i]? = c[i]?
  | [], j, c, _, h => by simp at h
  | x :: css, 0, c, hs, h => by
    intro i hi
    obtain rfl : x = c := by simpa using h
    rw [List.flatten_cons, Nat.zero_mul, Nat.zero_add, List.getElem?_append_left (by rw [hs x (List.mem_cons_self ..)]; exact hi)]
  | x :: css, j + 1, c, hs, h => by
    intro i hi
    have ih := flatten_at css j c (fun c hc => hs c (List.mem_cons_of_mem _ hc)) (by simpa using h) i hi
    have hx := hs x (List.mem_cons_self ..)
    have e : (j + 1) * sz = sz + j * sz := by rw [Nat.add_mul, Nat.one_mul, Nat.add_comm]
    rw [List.flatten_cons, List.getElem?_append_right (by rw [hx, e]; omega), ← ih]
    congr 1
    rw [hx, e]
    omega
theorem owns_same {W W' : World} {b : Nat} {e : TypeId} {s : Nat} {v : Value} {n : Nat} {xs : List Value} (h : W.ownsRow b e s v n xs) (hs : ∀ g, v.ownBlock = some g → W'.heap[g]? = W.heap[g]?) : W'.ownsRow b e s v n xs := by
  refine ⟨h.1, ?_⟩
  rcases h.2 with h | ⟨g, cap, cur, rfl, h1, h2, h3⟩
  · exact .inl h
  · exact .inr ⟨g, cap, cur, rfl, h1, (hs g rfl).trans h2, h3⟩
theorem owns_lt {W : World} {b : Nat} {e : TypeId} {s : Nat} {v : Value} {n : Nat} {xs : List Value} (h : W.ownsRow b e s v n xs) {g : Nat} (hg : v.ownBlock = some g) : b ≤ g ∧ g < W.heap.size := by
  rcases h.2 with ⟨rfl, _⟩ | ⟨g', cap, cur, rfl, h1, h2, h3⟩
  · simp [Value.ownBlock] at hg
  · simp [Value.ownBlock] at hg
    subst hg
    exact ⟨h1, (Array.getElem?_eq_some_iff.1 h2).1⟩
theorem owns_form {X : World} {b : Nat} {e : TypeId} {size : Nat} {v : Value} {m : Nat} {xs : List Value} (h : X.ownsRow b e size v m xs) : ∃ q c, v = .slice q m c := by
  rcases h.2 with ⟨rfl, h0⟩ | ⟨g, cap, cur, rfl, _⟩
  · exact ⟨none, 0, by rw [h0]⟩
  · exact ⟨_, _, rfl⟩

end Go.Proofs.Ytiaomdlfccpcmaa.Sl
