/- Which integers are right code points, what stands for the others, and slices of integers in memory. -/
import Derived.Test.YtagbjmocjaaioaaGreatDoorAlive
import Derived.WalkKit
import Derived.Below
import Derived.Deep.QuietTactic
import Derived.BigQuiet
import Derived.OwnWalk
namespace Go.Proofs.YtagbjmocjaaioaaGreatDoor
open Go Go.RowKit
def rightB (c:Int):Bool:=decide (0 ≤ c ∧ c ≤ 1114111 ∧ (c < 55296 ∨ 57343 < c))
theorem rightB_true {c:Int} (h:0 ≤ c ∧ c ≤ 1114111 ∧ (c < 55296 ∨ 57343 < c)):rightB c = true:=decide_eq_true h
theorem rightB_false {c:Int} (h:¬ (0 ≤ c ∧ c ≤ 1114111 ∧ (c < 55296 ∨ 57343 < c))):rightB c = false:=decide_eq_false h
def fixC (c:Int):Int:=if rightB c = true then c else 65533
theorem fixC_yes {c:Int} (h:rightB c = true):fixC c = c:=if_pos h
theorem fixC_no {c:Int} (h:rightB c = false):fixC c = 65533:=if_neg (by simp [h])
theorem rightB_iff {c:Int}:rightB c = true ↔ (0 ≤ c ∧ c ≤ 1114111 ∧ (c < 55296 ∨ 57343 < c)):=by unfold rightB;exact decide_eq_true_iff
theorem fixC_right (c:Int):0 ≤ fixC c ∧ fixC c ≤ 1114111 ∧ (fixC c < 55296 ∨ 57343 < fixC c):=by
 unfold fixC
 split
 ·exact rightB_iff.1 (by assumption)
 ·omega
def IntsAt (n₀:Nat) (W:World) (v:Value) (l:List Int):Prop:=
 (l = [] ∧ (v = .slice none 0 0 ∨ ∃ x cap,v = .slice (some x) 0 cap)) ∨ ∃ bk off cap,v = .slice (some ⟨bk,off,none⟩) l.length cap ∧ l.length ≤ cap ∧ cap ≤ maxLen ∧ bk < n₀ ∧ ∀ j u,l[j]? = some u → W.cell? ⟨bk,off + j,none⟩ = some (.int .i64 u)
theorem IntsAt.cases {n₀:Nat} {X:World} {v:Value} {l:List Int} (h:IntsAt n₀ X v l) :
  (l = [] ∧ ∃ p cap,v = .slice p 0 cap) ∨ ∃ bk off cap,v = .slice (some ⟨bk,off,none⟩) l.length cap ∧ l.length ≤ cap ∧ cap ≤ maxLen ∧ bk < n₀ ∧ ∀ j u,l[j]? = some u → X.cell? ⟨bk,off + j,none⟩ = some (.int .i64 u):=by
 rcases h with ⟨h1,rfl | ⟨x,cap,rfl⟩⟩ | h
 ·exact .inl ⟨h1,_,_,rfl⟩
 ·exact .inl ⟨h1,_,_,rfl⟩
 ·exact .inr h
theorem IntsAt.below {n₀:Nat} {X Y:World} {v:Value} {l:List Int} (h:IntsAt n₀ X v l) (hb:Below n₀ X Y):IntsAt n₀ Y v l:=by
 rcases h with h | ⟨bk,off,cap,rfl,hc,hm,hbk,h⟩
 ·exact .inl h
 ·exact .inr ⟨bk,off,cap,rfl,hc,hm,hbk,fun j u hj => (hb.cell (p:=⟨bk,off + j,none⟩) hbk).trans (h j u hj)⟩
theorem IntsAt.mono {n₀ n₁:Nat} {X:World} {v:Value} {l:List Int} (h:IntsAt n₀ X v l) (hn:n₀ ≤ n₁):IntsAt n₁ X v l:=by
 rcases h with h | ⟨bk,off,cap,rfl,hc,hm,hbk,h⟩
 ·exact .inl h
 ·exact .inr ⟨bk,off,cap,rfl,hc,hm,by omega,h⟩
theorem IntsAt.len {n₀:Nat} {X:World} {v:Value} {l:List Int} (h:IntsAt n₀ X v l):∃ p cap,v = .slice p l.length cap:=by
 rcases h.cases with ⟨rfl,p,cap,rfl⟩ | ⟨bk,off,cap,rfl,_⟩
 ·exact ⟨_,_,rfl⟩
 ·exact ⟨_,_,rfl⟩
end Go.Proofs.YtagbjmocjaaioaaGreatDoor

/- tapestrierref9.SameInts at two slices of integers; the document's own Points and Prepare at every slice of bytes. -/
namespace Go.Proofs.YtagbjmocjaaioaaGreatDoor
open Go Go.RowKit Go.Shelf
theorem IntsAt.of_owns {X:World} {b:Nat} {e:TypeId} {v:Value} {l:List Int} {m:Nat} (h:X.ownsRow b e 1 v m (l.map (Value.int .i64))) (hm:m = l.length):IntsAt X.heap.size X v l:=by
 subst hm
 rcases owns_cells h with ⟨rfl,h2,h3⟩ | ⟨g,cap,rfl,h1,h2,h3,h4,h5⟩
 ·exact .inl ⟨by simpa using h3,.inl rfl⟩
 ·exact .inr ⟨g,0,cap,rfl,h1,h2,h4,fun j u hj => h5 j _ (by rw [List.getElem?_map,hj];rfl)⟩
end Go.Proofs.YtagbjmocjaaioaaGreatDoor
