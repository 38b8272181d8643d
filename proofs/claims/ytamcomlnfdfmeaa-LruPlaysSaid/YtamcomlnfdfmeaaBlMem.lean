/- Package bloom in memory: a filter's counters; numbers in a slice; marks of ranges over functions. -/
import Derived.Test.YtamcomlnfdfmeaaSeqD
import Derived.Test.YtamcomlnfdfmeaaBlSpec
import Derived.WalkKit
import Derived.Below
import Derived.OwnWalk
import Derived.OwnWalkIn
import Derived.TacticsInMore
import Derived.LoopNIn
import Derived.LoopIn
import Derived.RangeFuncBox
import Derived.Shelf.RegionOpen
import Derived.Deep.QuietTactic
import Derived.BigQuiet
namespace Go.Proofs.Ytamcomlnfdfmeaa.Bl
open Go Go.RowKit Go.Shelf

/-! ### numbers in a slice -/
/-- The slice v has the numbers l. -/
def IntsR (W : World) (v : Value) (l : List Int) : Prop :=
  (l = [] ∧ ∃ p c, v = .slice p 0 c) ∨ ∃ b off cap, v = .slice (some ⟨b, off, none⟩) l.length cap ∧ l.length ≤ cap ∧ cap ≤ maxLen ∧
    ∀ j x, l[j]? = some x → W.cell? ⟨b, off + j, none⟩ = some (.int .i64 x)
theorem IntsR.kept {X Y : World} {v : Value} {l : List Int} (h : IntsR X v l) (hk : ∀ r, v.ownBlock = some r → Y.heap[r]? = X.heap[r]?) : IntsR Y v l := by
  rcases h with h | ⟨b, off, cap, rfl, h1, h2, h3⟩
  · exact .inl h
  · exact .inr ⟨b, off, cap, rfl, h1, h2, fun j x hx => (World.cell?_of_block (a := ⟨b, off + j, none⟩) (hk b rfl)).trans (h3 j x hx)⟩
theorem IntsR.len {X : World} {v : Value} {l : List Int} (h : IntsR X v l) : ∃ p cap, v = .slice p l.length cap := by
  rcases h with ⟨rfl, p, c, rfl⟩ | ⟨b, off, cap, rfl, _⟩
  · exact ⟨p, c, rfl⟩
  · exact ⟨_, _, rfl⟩
theorem IntsR.short {X : World} {v : Value} {l : List Int} (h : IntsR X v l) : l.length ≤ maxLen := by
  rcases h with ⟨rfl, _⟩ | ⟨b, off, cap, _, h1, h2, _⟩
  · exact Nat.zero_le _
  · omega
theorem IntsR.get {X : World} {p : Option Addr} {m cap : Nat} {l : List Int} (h : IntsR X (.slice p m cap) l) {k : Nat} {x : Int} (hk : l[k]? = some x) :
    ∃ b off, p = some ⟨b, off, none⟩ ∧ l.length ≤ cap ∧ cap ≤ maxLen ∧ X.cell? ⟨b, off + k, none⟩ = some (.int .i64 x) := by
  rcases h with ⟨rfl, _⟩ | ⟨b, off, c, e, h1, h2, h⟩
  · simp at hk
  · cases e; exact ⟨b, off, rfl, h1, h2, h k x hk⟩
theorem IntsR.lt {X : World} {v : Value} {l : List Int} (h : IntsR X v l) (h0 : l ≠ []) {r : Nat} (hr : v.ownBlock = some r) : r < X.heap.size := by
  rcases h with ⟨rfl, _⟩ | ⟨b, off, cap, rfl, _, _, h3⟩
  · exact absurd rfl h0
  · cases hr
    cases l with
    | nil => exact absurd rfl h0
    | cons x l => exact World.block_lt_of_cell? X ⟨b, off + 0, none⟩ (h3 0 x rfl)

/-! ### filters -/
/-- A round's contract at one depth serves at any. -/
theorem roundAny {n m l' l : Nat} {f : FuncId} {tmps : Array Value} {assign body : Code} {w : World} {R : Ending → World → Prop} (h : RoundIn Fence.wide n Try.prog l f tmps assign body w R) :
    RoundIn (Fence.wide.inRound l') m Try.prog l f tmps assign body w R := ⟨h.1, fun c cs _ => h.2 c cs (fun d hd => by cases hd)⟩

/-! ### marks -/
def marks (rs : List Nat) : List Deferred := rs.map (fun r => { target := .collected r, args := #[] })
theorem leaves_marks {F : Fence} {n : Nat} {P : Program} {fn : Func} {tmps : Array Value} {R : Ending → World → Prop} : ∀ (rs : List Nat) (w : World), rs.Nodup → (∀ r ∈ rs, w.heap[r]? = some (.deferred (some []))) →
    (∀ w', Kd (fun r => r ∉ rs) w w' → LeavesInM F n P fn tmps R [] .returning w') → LeavesInM F n P fn tmps R (marks rs) .returning w
  | [], w, _, _, hK => hK w (Kd.refl _ _)
  | r :: rs, w, hn, h, hK => by
    refine ⟨by simp, .inl ⟨r, _, rfl, run_takeDeferred (h r (List.mem_cons_self ..)), ?_⟩⟩
    have hn' := List.nodup_cons.1 hn
    refine leaves_marks rs _ hn'.2 (fun r' hr' => (World.putObj_heap_other (fun e => hn'.1 (by subst e; exact hr'))).trans (h r' (List.mem_cons_of_mem _ hr'))) (fun w' k => hK w' ?_)
    exact ⟨k.os, k.tape, k.output, by simpa using k.size, fun r' hr' => (k.same r' (fun e => hr' (List.mem_cons_of_mem _ e))).trans (World.putObj_heap_other (fun e => hr' (by subst e; exact List.mem_cons_self ..)))⟩

theorem Fr.marks {D E : Nat → Prop} {W x w' : World} (h : Fr D E W x) {rs : List Nat} (k : Kd (fun r => r ∉ rs) x w') (hr : ∀ r ∈ rs, W.heap.size ≤ r) : Fr D E W w' :=
  ⟨k.os.trans h.os, k.tape.trans h.tape, k.output.trans h.output, Nat.le_trans h.size k.size, fun r h1 h2 => (k.same r (fun e => by have := hr r e; omega)).trans (h.block r h1 h2), h.grow, fun r e => Nat.lt_of_lt_of_le (h.lt r e) k.size⟩

end Go.Proofs.Ytamcomlnfdfmeaa.Bl
