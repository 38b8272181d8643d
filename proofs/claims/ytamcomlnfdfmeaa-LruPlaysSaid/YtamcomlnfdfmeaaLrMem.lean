/- Package lru in memory: entries in a row, caches. -/
import Derived.Test.YtamcomlnfdfmeaaSeqE
import Derived.Test.YtamcomlnfdfmeaaBlMem
import Derived.Test.YtamcomlnfdfmeaaSlMini
import Derived.Test.YtamcomlnfdfmeaaLrSpec
import Derived.Test.YtamcomlnfdfmeaaRgIn
import Derived.Maps.OwnIn
namespace Go.Proofs.Ytamcomlnfdfmeaa.Lr
open Go Go.RowKit Go.Shelf Sl

/-- The slice v has the entries l (two cells each, of the type t), from its block's beginning on. -/
def EntR (t : TypeId) (W : World) (v : Value) (l : List En) : Prop := W.ownsRow 0 t 2 v l.length (flat l)
theorem EntR.kept {t : TypeId} {X Y : World} {v : Value} {l : List En} (h : EntR t X v l) (hk : ∀ r, v.ownBlock = some r → Y.heap[r]? = X.heap[r]?) : EntR t Y v l := Sl.owns_same h hk
theorem EntR.form {t : TypeId} {X : World} {v : Value} {l : List En} (h : EntR t X v l) : ∃ p cap, v = .slice p l.length cap := Sl.owns_form h
theorem EntR.lt {t : TypeId} {X : World} {v : Value} {l : List En} (h : EntR t X v l) {r : Nat} (hr : v.ownBlock = some r) : r < X.heap.size := (Sl.owns_lt h hr).2
theorem EntR.short {t : TypeId} {X : World} {v : Value} {l : List En} (h : EntR t X v l) : l.length ≤ maxLen := by
  rcases h.2 with ⟨_, h0⟩ | ⟨g, cap, cur, _, _, _, h1, h2, _⟩
  · omega
  · omega
theorem EntR.get {t : TypeId} {X : World} {p : Option Addr} {m cap : Nat} {l : List En} (h : EntR t X (.slice p m cap) l) {k : Nat} {e : En} (hk : l[k]? = some e) :
    ∃ g, p = some ⟨g, 0, none⟩ ∧ X.cell? ⟨g, k * 2, none⟩ = some (.int .i64 e.1) ∧ X.cell? ⟨g, k * 2 + 1, none⟩ = some (.int .i64 e.2) := by
  have hlt : k < l.length := (List.getElem?_eq_some_iff.1 hk).1
  rcases h.2 with ⟨_, h0⟩ | ⟨g, c, cur, e1, _, hg, h1, h2, h3, h4⟩
  · omega
  · obtain ⟨f1, f2⟩ := flat_get hk
    rw [← h4] at f1 f2
    rw [List.getElem?_take_of_lt (by omega), Array.getElem?_toList] at f1 f2
    cases e1
    exact ⟨g, rfl, by simp [World.cell?, hg, f1], by simp [World.cell?, hg, f2]⟩
/-- The row's block is of the type t: so it is none of another type. -/
theorem EntR.ne {t t' : TypeId} {X : World} {v : Value} {l : List En} (h : EntR t X v l) {d : Nat} {A : Array Value} (hd : X.heap[d]? = some (.cells A t' (0, 0))) (ht : t' ≠ t) : v.ownBlock ≠ some d := fun e => by
  rcases h.2 with ⟨rfl, h0⟩ | ⟨g, c, cur, rfl, _, hg, _⟩
  · simp [Value.ownBlock] at e
  · simp [Value.ownBlock] at e
    subst e
    rw [hg] at hd
    injection hd with h1
    injection h1 with _ h2
    exact ht h2.symm

/-- Block b is a cache of the size s, with the entries l in the slice v. -/
structure CacheV (tC tE : TypeId) (W : World) (b s : Nat) (v : Value) (l : List En) : Prop where
  blk : W.heap[b]? = some (.cells #[.int .i64 s, v] tC (0, 0))
  row : EntR tE W v l
  good : Good s l
  small : s ≤ 1024
section
variable {tC tE : TypeId} {X Y : World} {b s : Nat} {v : Value} {l : List En}
theorem CacheV.lt (h : CacheV tC tE X b s v l) : b < X.heap.size := (Array.getElem?_eq_some_iff.1 h.blk).1
theorem CacheV.kept (h : CacheV tC tE X b s v l) (hb : Y.heap[b]? = X.heap[b]?) (hr : ∀ r, v.ownBlock = some r → Y.heap[r]? = X.heap[r]?) : CacheV tC tE Y b s v l :=
  ⟨hb.trans h.blk, h.row.kept hr, h.good, h.small⟩
theorem CacheV.next (h : CacheV tC tE X b s v l) (hb : Below X.heap.size X Y) : CacheV tC tE Y b s v l := h.kept (hb.block _ h.lt) (fun _ hr => hb.block _ (h.row.lt hr))
theorem CacheV.drew (h : CacheV tC tE X b s v l) : CacheV tC tE X.drew b s v l := h.kept rfl (fun _ _ => rfl)
theorem CacheV.cells (h : CacheV tC tE X b s v l) : X.cell? ⟨b, 0, none⟩ = some (.int .i64 s) ∧ X.cell? ⟨b, 1, none⟩ = some v ∧ X.frozen? ⟨b, 1, none⟩ = false := by
  refine ⟨by simp [World.cell?, h.blk], by simp [World.cell?, h.blk], by simp [World.frozen?, h.blk]⟩
theorem CacheV.few (h : CacheV tC tE X b s v l) : l.length ≤ 1024 := Nat.le_trans h.good.few h.small
/-- Another cache's block d alone was changed. -/
theorem CacheV.frame {D' : Nat → Prop} {d : Nat} {A : Array Value} {tD : TypeId} (h : CacheV tC tE X b s v l) (fr : Fr (fun r => r = d) D' X Y) (hd : X.heap[d]? = some (.cells A tD (0, 0))) (ht : tD ≠ tE) (hne : b ≠ d) : CacheV tC tE Y b s v l :=
  h.kept (fr.block _ h.lt hne) (fun r hr => fr.block _ (h.row.lt hr) (fun e => h.row.ne hd ht (by rw [hr, e])))
/-- A cache's list is set. -/
theorem CacheV.set (h : CacheV tC tE X b s v l) (ht : tC ≠ tE) {v' : Value} {l' : List En} (hr : EntR tE X v' l') (hg : Good s l') : CacheV tC tE (X.setCell ⟨b, 1, none⟩ v') b s v' l' := by
  have hlt := h.lt
  have hb := (Array.getElem?_eq_some_iff.1 h.blk).2
  refine ⟨?_, hr.kept (fun r e => ?_), hg, h.small⟩
  · simp [World.setCell, hlt, Array.getElem_modify, hb]
  · have hne : r ≠ b := fun e' => hr.ne h.blk ht (by rw [e, e'])
    simp [World.setCell, Array.getElem?_modify, hne.symm]
end
theorem setCell_grown (X : World) (b i : Nat) (v : Value) : X.grownBy (X.setCell ⟨b, i, none⟩ v) (some b) :=
  ⟨rfl, rfl, rfl, by simp [World.setCell], fun k _ hne => by
    have : k ≠ b := fun e => hne (by rw [e])
    simp [World.setCell, Array.getElem?_modify, this.symm]⟩
def CacheAt (tC tE : TypeId) (W : World) (b s : Nat) (l : List En) : Prop := ∃ v, CacheV tC tE W b s v l
/-- The program's caches. -/
abbrev LC (W : World) (b s : Nat) (l : List En) : Prop := CacheAt 44 56 W b s l
abbrev LV (W : World) (b s : Nat) (v : Value) (l : List En) : Prop := CacheV 44 56 W b s v l
abbrev LE (W : World) (v : Value) (l : List En) : Prop := EntR 56 W v l
/-- The document's. -/
abbrev RC (W : World) (b s : Nat) (l : List En) : Prop := CacheAt 47 49 W b s l
abbrev RV (W : World) (b s : Nat) (v : Value) (l : List En) : Prop := CacheV 47 49 W b s v l
abbrev RE (W : World) (v : Value) (l : List En) : Prop := EntR 49 W v l
theorem infoEn : (Try.prog.info? 56).map (fun i => (i.zero, i.size, i.bytes)) = some (some (.agg #[.int .i64 0, .int .i64 0]), 2, 16) := by kernel_rfl
theorem infoRn : (Try.prog.info? 49).map (fun i => (i.zero, i.size, i.bytes)) = some (some (.agg #[.int .i64 0, .int .i64 0]), 2, 16) := by kernel_rfl
theorem infoI : (Try.prog.info? 3).map (fun i => (i.zero, i.size, i.bytes)) = some (some (.int .i64 0), 1, 8) := by kernel_rfl
theorem info_of {e : TypeId} {z : Value} {s b : Nat} (h : (Try.prog.info? e).map (fun i => (i.zero, i.size, i.bytes)) = some (some z, s, b)) : ∃ i, Try.prog.info? e = some i ∧ i.zero = some z ∧ i.size = s ∧ i.bytes = b := by
  obtain ⟨i, hi, e⟩ := Option.map_eq_some_iff.1 h
  simp only [Prod.mk.injEq] at e
  exact ⟨i, hi, e.1, e.2.1, e.2.2⟩
theorem cell_ofL {X : World} {g : Nat} {cur : Array Value} {t : TypeId} {fz : Nat × Nat} (h : X.heap[g]? = some (.cells cur t fz)) (j : Nat) : X.cell? ⟨g, j, none⟩ = cur[j]? := by simp [World.cell?, h]
theorem addr_addL (bk off j : Nat) : (⟨bk, off, none⟩ : Addr).add j = ⟨bk, off + j, none⟩ := by
  unfold Addr.add
  split
  · simp_all
  · rfl
theorem cells_plainL (w : World) (l : List Value) (ty : TypeId) : ∀ j u, l[j]? = some u → (w.alloc (.cells l.toArray ty)).cell? ((⟨w.heap.size, 0, none⟩ : Addr).add j) = some u := fun j u hj => by
  rw [addr_addL, Nat.zero_add, cell_ofL (World.alloc_heap_new w _) j]
  simpa using hj

end Go.Proofs.Ytamcomlnfdfmeaa.Lr
