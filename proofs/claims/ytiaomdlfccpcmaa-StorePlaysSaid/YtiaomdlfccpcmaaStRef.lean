/- The document's own store: every call. -/
import Derived.Test.YtiaomdlfccpcmaaStUse
import Derived.Maps.AppendAt
namespace Go.Proofs.Ytiaomdlfccpcmaa.Sto
open Go Go.RowKit Sl

/-- Structs as cells. -/
def flatH : List He → List Value
  | [] => []
  | h :: l => heL h ++ flatH l
theorem flatH_len : ∀ l : List He, (flatH l).length = l.length * 9
  | [] => rfl
  | h :: l => by simp [flatH, flatH_len l]; omega
theorem flatH_app : ∀ a b : List He, flatH (a ++ b) = flatH a ++ flatH b
  | [], b => rfl
  | h :: a, b => by simp [flatH, flatH_app a b]
theorem flatH_get : ∀ {l : List He} {k : Nat} {h : He}, l[k]? = some h → ∀ j, j < 9 → (flatH l)[k * 9 + j]? = (heL h)[j]?
  | [], k, h, e, j, hj => by simp at e
  | x :: l, 0, h, e, j, hj => by
    simp at e; subst e
    rw [Nat.zero_mul, Nat.zero_add]
    exact List.getElem?_append_left (by simpa using hj)
  | x :: l, k + 1, h, e, j, hj => by
    have := flatH_get (l := l) (k := k) (h := h) (by simpa using e) j hj
    rw [← this, show (k + 1) * 9 + j = 9 + (k * 9 + j) by omega]
    show (heL x ++ flatH l)[9 + (k * 9 + j)]? = _
    rw [List.getElem?_append_right (by simp)]
    congr 1
    simp
theorem flatH_set : ∀ {l : List He} {k : Nat} {h : He}, l[k]? = some h → ∀ m : Int, flatH (l.set k (h.1, m)) = (flatH l).set (k * 9 + 8) (.int .i64 m)
  | [], k, h, e, m => by simp at e
  | x :: l, 0, h, e, m => by
    simp at e; subst e
    rfl
  | x :: l, k + 1, h, e, m => by
    have := flatH_set (l := l) (k := k) (h := h) (by simpa using e) m
    rw [show (k + 1) * 9 + 8 = 9 + (k * 9 + 8) by omega]
    show heL x ++ flatH (l.set k (h.1, m)) = (heL x ++ flatH l).set (9 + (k * 9 + 8)) (.int .i64 m)
    rw [this, List.set_append_right _ _ (by simp)]
    congr 2
    simp
theorem flatH_one {l : List He} : ∀ u ∈ flatH l, u.oneCell' = true := by
  induction l with
  | nil => intro u hu; simp [flatH] at hu
  | cons e l ih =>
    intro u hu
    simp only [flatH, List.mem_append] at hu
    rcases hu with hu | hu
    · simp only [heL, List.mem_cons, List.not_mem_nil, or_false] at hu
      rcases hu with rfl | rfl | rfl | rfl | rfl | rfl | rfl | rfl | rfl <;> rfl
    · exact ih u hu

/-- The document's store in block b: its slice v has the structs l. -/
structure RS (n₀ : Nat) (W : World) (b : Nat) (v : Value) (l : List He) : Prop where
  blk : Blk W b 32 [v]
  row : W.ownsRow n₀ 55 9 v l.length (flatH l)
  low : n₀ ≤ b
def RT (n₀ : Nat) (W : World) (b : Nat) (l : List He) : Prop := ∃ v, RS n₀ W b v l
/-- Block b alone, and rows of the document's structs from n₀ on, were changed. -/
structure ChR (n₀ b : Nat) (X Y : World) : Prop where
  os : Y.os = X.os
  tape : Y.tape = X.tape
  output : Y.output = X.output
  size : X.heap.size ≤ Y.heap.size
  block : ∀ r, r < X.heap.size → r ≠ b → (n₀ ≤ r → ∀ A, X.heap[r]? ≠ some (.cells A 55 (0, 0))) → Y.heap[r]? = X.heap[r]?
section
variable {n₀ b : Nat} {X Y : World} {v : Value} {l : List He}
theorem RS.kept (h : RS n₀ X b v l) (hb : Y.heap[b]? = X.heap[b]?) (hr : ∀ r, v.ownBlock = some r → Y.heap[r]? = X.heap[r]?) : RS n₀ Y b v l := ⟨hb.trans h.blk, owns_same h.row hr, h.low⟩
theorem RS.next (h : RS n₀ X b v l) (hb : Below X.heap.size X Y) : RS n₀ Y b v l := h.kept (hb.block _ h.blk.lt) (fun _ hr => hb.block _ (owns_lt h.row hr).2)
theorem RS.drew (h : RS n₀ X b v l) : RS n₀ X.drew b v l := ⟨h.blk, owns_same h.row (fun _ _ => rfl), h.low⟩
theorem RS.ne (h : RS n₀ X b v l) {d : Nat} {A : Array Value} {t : TypeId} (hd : X.heap[d]? = some (.cells A t (0, 0))) (ht : t ≠ 55) : v.ownBlock ≠ some d := fun e => by
  rcases h.row.2 with ⟨rfl, h0⟩ | ⟨g, c, cur, rfl, _, hg, _⟩
  · simp [Value.ownBlock] at e
  · simp [Value.ownBlock] at e
    subst e
    rw [hg] at hd
    cases hd
    exact ht rfl
theorem RT.next (h : RT n₀ X b l) (hb : Below X.heap.size X Y) : RT n₀ Y b l := h.elim fun v h => ⟨v, h.next hb⟩
theorem RT.lt (h : RT n₀ X b l) : b < X.heap.size := h.elim fun _ h => h.blk.lt
/-- A store of the program's was changed. -/
theorem RT.chg {c : Nat} {k : List He} (h : RT n₀ X b l) (hc : ST X c k) (ch : Chg c X Y) : RT n₀ Y b l := by
  obtain ⟨v, h⟩ := h
  obtain ⟨p, hc, _⟩ := hc
  refine ⟨v, h.kept (ch.block b h.blk.lt (fun e => ?_)) (fun r hr => ch.block r (owns_lt h.row hr).2 (fun e => ?_))⟩
  · subst e
    have h1 : X.heap[b]? = _ := h.blk
    rw [show X.heap[b]? = _ from hc] at h1
    cases h1
  · subst e
    exact h.ne (show X.heap[r]? = _ from hc) (by decide) hr
theorem ST.ref {c : Nat} {k : List He} (hc : ST X c k) (h : RT n₀ X b l) (ch : ChR n₀ b X Y) : ST Y c k := by
  obtain ⟨v, h⟩ := h
  obtain ⟨p, hc, ht⟩ := hc
  have hb : X.heap[b]? = _ := h.blk
  refine ⟨p, (ch.block c (Blk.lt hc) (fun e => ?_) (fun _ A e => ?_)).trans hc, (ht.typed.kept (fun r hr hlt => ch.block r hlt (fun e => ?_) (fun _ A e => ?_))).mono (fun _ _ => trivial)⟩
  · subst e
    rw [show X.heap[c]? = _ from hc] at hb
    cases hb
  · rw [show X.heap[c]? = _ from hc] at e
    cases e
  · subst e
    obtain ⟨_, k, h3 | h3⟩ := hr <;> (rw [hb] at h3; cases h3)
  · obtain ⟨_, k, h3 | h3⟩ := hr <;> (rw [e] at h3; cases h3)
theorem ChR.below {n : Nat} (h : ChR n₀ b X Y) (hn : n ≤ X.heap.size) (hb : n ≤ b) (h0 : n ≤ n₀) : Below n X Y := ⟨h.os, h.tape, h.output, h.size, fun r hr => h.block r (by omega) (by omega) (fun _ => by omega)⟩
theorem RS.get {p : Option Addr} {m cap : Nat} (h : RS n₀ X b (.slice p m cap) l) {k : Nat} {x : He} (hk : l[k]? = some x) :
    ∃ g, p = some ⟨g, 0, none⟩ ∧ (∀ j u, (heL x)[j]? = some u → X.cell? ⟨g, k * 9 + j, none⟩ = some u) ∧ X.frozen? ⟨g, k * 9 + 8, none⟩ = false ∧ RS n₀ X b (.slice (some ⟨g, 0, none⟩) m cap) l := by
  have hlt : k < l.length := (List.getElem?_eq_some_iff.1 hk).1
  have hh := h
  rcases h.row.2 with ⟨_, h0⟩ | ⟨g, c, cur, e1, _, hg, h1, h2, h3, h4⟩
  · omega
  · cases e1
    refine ⟨g, rfl, fun j u hj => ?_, by simp [World.frozen?, hg], hh⟩
    have hj9 : j < 9 := (List.getElem?_eq_some_iff.1 hj).1
    have f1 := (flatH_get hk j hj9).trans hj
    rw [← h4, List.getElem?_take_of_lt (by omega), Array.getElem?_toList] at f1
    simp [World.cell?, hg, f1]
theorem RS.len {p : Option Addr} {m cap : Nat} (h : RS n₀ X b (.slice p m cap) l) : m = l.length ∧ m ≤ cap ∧ cap ≤ maxLen := by
  rcases h.row.2 with ⟨e, h0⟩ | ⟨g, c, cur, e1, _, hg, h1, h2, h3, h4⟩
  · cases e; exact ⟨h0.symm, Nat.le_refl _, Nat.zero_le _⟩
  · cases e1; exact ⟨rfl, h1, h2⟩
theorem RS.form (h : RS n₀ X b v l) : ∃ p cap, v = .slice p l.length cap := owns_form h.row
theorem RS.cells (h : RS n₀ X b v l) : X.cell? ⟨b, 0, none⟩ = some v ∧ X.frozen? ⟨b, 0, none⟩ = false := blk1 h.blk
/-- A struct's count is set. -/
theorem RS.put {g m cap : Nat} (h : RS n₀ X b (.slice (some ⟨g, 0, none⟩) m cap) l) {k : Nat} {x : He} (hk : l[k]? = some x) (z : Int) :
    RS n₀ (X.setCell ⟨g, k * 9 + 8, none⟩ (.int .i64 z)) b (.slice (some ⟨g, 0, none⟩) m cap) (l.set k (x.1, z)) ∧ ChR n₀ b X (X.setCell ⟨g, k * 9 + 8, none⟩ (.int .i64 z)) := by
  have hlt : k < l.length := (List.getElem?_eq_some_iff.1 hk).1
  have gs := grown_set X g (k * 9 + 8) (.int .i64 z)
  rcases h.row.2 with ⟨e, _⟩ | ⟨g', c, cur, e1, hb0, hg, h1, h2, h3, h4⟩
  · cases e
  cases e1
  have hne : b ≠ g := fun e => h.ne (show X.heap[b]? = _ from h.blk) (by decide) (by rw [e]; rfl)
  have hgl : g < X.heap.size := (Array.getElem?_eq_some_iff.1 hg).1
  have hgx := (Array.getElem?_eq_some_iff.1 hg).2
  refine ⟨⟨(gs.block b h.blk.lt (fun e => hne (Option.some.inj e))).trans h.blk, ⟨by rw [flatH_len, List.length_set], .inr ⟨g, cap, cur.setIfInBounds (k * 9 + 8) (.int .i64 z), by rw [List.length_set], hb0, ?_, by rw [List.length_set]; exact h1, h2, by simpa using h3, ?_⟩⟩, h.low⟩, ⟨gs.os, gs.tape, gs.output, gs.size, fun r hr hrb ht => gs.block r hr (fun e => ?_)⟩⟩
  · simp only [World.setCell, Array.getElem?_modify, Array.getElem?_eq_getElem hgl, hgx, if_true, Option.map_some]
    rfl
  · rw [flatH_set hk, ← h4, List.length_set, Array.toList_setIfInBounds, List.take_set]
  · obtain rfl := Option.some.inj e
    exact ht hb0 _ hg
theorem ChR.of_below (h : Below X.heap.size X Y) : ChR n₀ b X Y := ⟨h.os, h.tape, h.output, h.size, fun r hr _ _ => h.block r hr⟩
theorem ChR.drew : ChR n₀ b X X.drew := ⟨rfl, rfl, rfl, Nat.le_refl _, fun _ _ _ _ => rfl⟩
end
theorem infoRH : (Try.prog.info? 55).map (fun i => (i.zero, i.size, i.bytes)) = some (some (.agg #[.int .i64 0, .int .i64 0, .int .i64 0, .int .i64 0, .int .i64 0, .int .i64 0, .int .i64 0, .int .i64 0, .int .i64 0]), 9, 72) := by kernel_rfl
theorem RT.new (n₀ : Nat) (X : World) (h : n₀ ≤ X.heap.size) : RT n₀ (X.alloc (.cells #[.slice none 0 0] 32)) X.heap.size [] :=
  ⟨_, heap_alloc_new X _, World.ownsRow_nil _ _ _ _, h⟩
theorem info_ofS {e : TypeId} {z : Value} {s b : Nat} (h : (Try.prog.info? e).map (fun i => (i.zero, i.size, i.bytes)) = some (some z, s, b)) : ∃ i, Try.prog.info? e = some i ∧ i.zero = some z ∧ i.size = s ∧ i.bytes = b := by
  obtain ⟨i, hi, e⟩ := Option.map_eq_some_iff.1 h
  simp only [Prod.mk.injEq] at e
  exact ⟨i, hi, e.1, e.2.1, e.2.2⟩

set_option maxRecDepth 100000 in
set_option maxHeartbeats 400000 in
theorem refCount_any (n₀ b n : Nat) (l : List He) (i : Int) (w : World) (hf : Few n l) (hi : i ≤ 9223372036854775807) (hS : RT n₀ w b l) :
    Calls Try.prog 17 #[.pointer (some ⟨b, 0, none⟩), .int .i64 i] w fun e w' => e = .returned (.int .i64 (cntV l i)) ∧ w' = w := by
  obtain ⟨v, hS⟩ := hS
  obtain ⟨p, cap, rfl⟩ := hS.form
  have hl := hS.len
  obtain ⟨c0, _⟩ := hS.cells
  by_cases h0 : i < 0
  · have hv : cntV l i = 0 := by unfold cntV; rw [lookV_neg h0]
    have d0 : decide (i < 0) = true := decide_eq_true h0
    rw [hv]
    clear hv hS hf
    go_enter Try.func17, Try.ntmps17
    go_wp2
    go_ret
    exact ⟨rfl, rfl⟩
  obtain ⟨k, rfl⟩ : ∃ k : Nat, i = k := ⟨i.toNat, by omega⟩
  have d0 : decide ((k : Int) < 0) = false := decide_eq_false h0
  by_cases h1 : k < l.length
  · obtain ⟨x, hx⟩ : ∃ x, l[k]? = some x := ⟨_, List.getElem?_eq_getElem h1⟩
    have hv : cntV l k = x.2 := by
      unfold cntV
      rw [lookV_cast]
      by_cases hp : 0 < x.2
      · rw [atV_of hx hp]
      · rw [atV_off hx (by omega)]
        have := (hf.at hx).1
        show 0 = x.2
        omega
    obtain ⟨g, rfl, hc, _⟩ := hS.get hx
    have c8 := hc 8 _ rfl
    have d1 : decide (l.length ≤ k) = false := decide_eq_false (by omega)
    have d1' : decide ((l.length : Int) ≤ (k : Int)) = false := decide_eq_false (by omega)
    have h2 : (k : Int) < (l.length : Int) := by omega
    rw [hv]
    clear hv hS hf hc hx
    go_enter Try.func17, Try.ntmps17
    go_wp2
    go_ret
    exact ⟨rfl, rfl⟩
  · have hv : cntV l k = 0 := by unfold cntV; rw [lookV_cast, atV_out (by omega)]
    have d1 : decide (l.length ≤ k) = true := decide_eq_true (by omega)
    have d1' : decide ((l.length : Int) ≤ (k : Int)) = true := decide_eq_true (by omega)
    rw [hv]
    clear hv hS hf
    go_enter Try.func17, Try.ntmps17
    go_wp2
    go_ret
    exact ⟨rfl, rfl⟩

end Go.Proofs.Ytiaomdlfccpcmaa.Sto
