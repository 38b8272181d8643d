/- The document's own table (tapestrierref18.Table): Find and Of; three tables apart from each other. -/
import Derived.Test.YtbgcnmebmbjdjaaAtArgs
namespace Go.Proofs.Ytbgcnmebmbjdjaa
open Go Go.RowKit Go.Shelf Go.Maps

theorem beq_false {a b : ByteArray} (h : a ≠ b) : (a.toList == b.toList) = false := by
  rw [ByteArray.toList_eq, ByteArray.toList_eq, beq_eq_false_iff_ne]
  exact fun e => h (WideShapes.bytes_inj e)
theorem get_idx {xs : List ByteArray} {s : ByteArray} (h : s ∈ xs) : xs[xs.idxOf s]? = some s := by
  haveI := lawBA
  have h1 := List.idxOf_lt_length_of_mem h
  rw [List.getElem?_eq_getElem h1]
  exact congrArg some (List.getElem_idxOf h1)
theorem ne_before {xs : List ByteArray} {s u : ByteArray} {k : Nat} (hk : k < xs.idxOf s) (hu : xs[k]? = some u) : u ≠ s := by
  haveI := lawBA
  rintro rfl
  obtain ⟨h1, h2⟩ := List.getElem?_eq_some_iff.1 hu
  have := List.not_of_lt_findIdx (p := (· == u)) (xs := xs) hk
  simp [h2] at this

/-! ### a struct of one cell in a block of its own -/
def One (W : World) (B : Nat) (t : TypeId) (v : Value) : Prop := W.heap[B]? = some (.cells #[v] t (0, 0))
theorem One.lt {W : World} {B : Nat} {t : TypeId} {v : Value} (h : One W B t v) : B < W.heap.size := (Array.getElem?_eq_some_iff.1 h).1
theorem One.c0 {W : World} {B : Nat} {t : TypeId} {v : Value} (h : One W B t v) : W.cell? ⟨B, 0, none⟩ = some v := by simp [World.cell?, show W.heap[B]? = _ from h]
theorem One.f0 {W : World} {B : Nat} {t : TypeId} {v : Value} (h : One W B t v) : W.frozen? ⟨B, 0, none⟩ = false := by simp [World.frozen?, show W.heap[B]? = _ from h]
theorem One.set {W : World} {B : Nat} {t : TypeId} {v : Value} (h : One W B t v) (u : Value) : One (W.setCell ⟨B, 0, none⟩ u) B t u := by
  unfold One at h ⊢
  simp [World.setCell, Array.getElem?_modify, h]
theorem One.kept {W W' : World} {keep : Nat → Prop} {B : Nat} {t : TypeId} {v : Value} (h : One W B t v) (hk : Kept keep W W') (hB : keep B) : One W' B t v := (hk.block B h.lt hB).trans h

/-- Block rb is the document's own table with the names xs. -/
def RTab (w : World) (rb : Nat) (F : List Nat) (xs : List ByteArray) : Prop :=
  ∃ v, One w rb 32 v ∧ w.ownsRow 0 9 1 v xs.length (xs.map Value.string) ∧ v.ownBlock ≠ some rb ∧ F = rb :: v.ownBlock.toList

theorem RTab.lt {w : World} {rb : Nat} {F : List Nat} {xs : List ByteArray} (h : RTab w rb F xs) : ∀ b ∈ F, b < w.heap.size := by
  obtain ⟨v, ho, hr, _, rfl⟩ := h
  intro b hb
  simp at hb
  rcases hb with rfl | hb
  · exact ho.lt
  · exact (hr.lt b hb).2
theorem RTab.kept {w w' : World} {keep : Nat → Prop} {rb : Nat} {F : List Nat} {xs : List ByteArray} (h : RTab w rb F xs) (hk : Kept keep w w') (hF : ∀ b ∈ F, keep b) : RTab w' rb F xs := by
  obtain ⟨v, ho, hr, hne, rfl⟩ := h
  exact ⟨v, ho.kept hk (hF _ (by simp)), row_kept hr hk (fun k e => hF _ (by simp [e])), hne, rfl⟩
theorem RTab.below {w w' : World} {rb : Nat} {F : List Nat} {xs : List ByteArray} (h : RTab w rb F xs) (hb : Below w.heap.size w w') : RTab w' rb F xs := h.kept (keep := fun _ => True) (.of_below hb) (fun _ _ => trivial)
theorem RTab.new (w : World) : RTab (w.alloc (.cells #[.slice none 0 0] 32)) w.heap.size [w.heap.size] [] :=
  ⟨_, heap_alloc_new w _, World.ownsRow_nil _ _ _ _, by simp [Value.ownBlock], rfl⟩
theorem RTab.list {w : World} {rb : Nat} {F : List Nat} {xs : List ByteArray} (h : RTab w rb F xs) : ∃ p cap, w.cell? ⟨rb, 0, none⟩ = some (.slice p xs.length cap) ∧ ∀ k u, xs[k]? = some u → ∃ g, p = some ⟨g, 0, none⟩ ∧ w.cell? ⟨g, k, none⟩ = some (.string u) ∧ xs.length ≤ cap := by
  obtain ⟨v, ho, hr, _, rfl⟩ := h
  rcases hr.2 with ⟨rfl, h0⟩ | ⟨g, cap, cur, rfl, _, hb, hc, _⟩
  · have : xs = [] := List.length_eq_zero_iff.1 h0
    subst this
    exact ⟨_, _, ho.c0, fun k u hu => by cases hu⟩
  · refine ⟨_, _, ho.c0, fun k u hu => ⟨g, rfl, ?_, hc⟩⟩
    have := hr.cells rfl k (.string u) (by rw [List.getElem?_map, hu]; rfl)
    rwa [show (⟨g, 0, none⟩ : Addr).add k = ⟨g, k, none⟩ from by cases k <;> simp [Addr.add]] at this

set_option maxRecDepth 100000 in
theorem rFind_yes (w : World) (rb : Nat) (F : List Nat) (xs : List ByteArray) (s : ByteArray) (hT : RTab w rb F xs) (hs : s ∈ xs) (hl : xs.length ≤ 65536) :
    Calls Try.prog 9 #[.pointer (some ⟨rb, 0, none⟩), .string s] w fun e w' => e = .returned (.tuple #[.int .i64 (xs.idxOf s), .bool true]) ∧ w' = w := by
  obtain ⟨p, cap, c0, hc⟩ := hT.list
  have hi := idx_lt hs
  have hg := get_idx hs
  have hb : ∀ k u, k < xs.idxOf s → xs[k]? = some u → u ≠ s := fun k u => ne_before
  generalize xs.idxOf s = n at *
  go_enter Try.func9, Try.ntmps9
  go_wp2
  go_loopw [6] (fun i wr => ∃ k : Nat, i = .int .i64 k ∧ k ≤ n ∧ wr = w) (fun i _ => xs.length - (intOf i).toNat)
  case atStart => exact ⟨0, rfl, Nat.zero_le _, rfl⟩
  case round =>
    obtain ⟨k, rfl, hk, rfl⟩ := hrel
    obtain ⟨g, rfl, hcx, hcc⟩ := hc k xs[k] (List.getElem?_eq_getElem (by omega))
    have hxk : xs[k]? = some xs[k] := List.getElem?_eq_getElem (by omega)
    have hki : (k : Int) < (xs.length : Int) := by omega
    generalize xs[k] = x at hcx hxk
    clear hc hT
    by_cases he : k = n
    · subst he
      have : x = s := by rw [hg] at hxk; exact (Option.some.inj hxk).symm
      subst this
      clear hb
      go_wp2
      go_ret2
      exact ⟨rfl, rfl⟩
    · have hq := beq_false (hb k x (by omega) hxk)
      clear hb
      go_wp2
      exact ⟨⟨k + 1, by go_num, by omega, trivial⟩, by simp [intOf]; omega⟩

set_option maxRecDepth 100000 in
theorem rFind_no (w : World) (rb : Nat) (F : List Nat) (xs : List ByteArray) (s : ByteArray) (hT : RTab w rb F xs) (hs : s ∉ xs) (hl : xs.length ≤ 65536) :
    Calls Try.prog 9 #[.pointer (some ⟨rb, 0, none⟩), .string s] w fun e w' => e = .returned (.tuple #[.int .i64 0, .bool false]) ∧ w' = w := by
  obtain ⟨p, cap, c0, hc⟩ := hT.list
  go_enter Try.func9, Try.ntmps9
  go_wp2
  go_loopw [6] (fun i wr => ∃ k : Nat, i = .int .i64 k ∧ k ≤ xs.length ∧ wr = w) (fun i _ => xs.length - (intOf i).toNat)
  case atStart => exact ⟨0, rfl, Nat.zero_le _, rfl⟩
  case round =>
    obtain ⟨k, rfl, hk, rfl⟩ := hrel
    by_cases hlt : k < xs.length
    · obtain ⟨g, rfl, hcx, hcc⟩ := hc k xs[k] (List.getElem?_eq_getElem hlt)
      have hki : (k : Int) < (xs.length : Int) := by omega
      have hm : xs[k] ∈ xs := List.getElem_mem hlt
      generalize xs[k] = x at hcx hm
      have hq := beq_false (a := x) (b := s) (fun e => hs (e ▸ hm))
      clear hc hT
      go_wp2
      exact ⟨⟨k + 1, by go_num, by omega, trivial⟩, by simp [intOf]; omega⟩
    · have hki : ¬ (k : Int) < (xs.length : Int) := by omega
      go_wp2
      go_ret2
      exact ⟨rfl, rfl⟩

def GaveR (w : World) (rb : Nat) (F : List Nat) (xs : List ByteArray) (w' : World) : Prop := ∃ F', RTab w' rb F' xs ∧ (∀ b ∈ F', b ∈ F ∨ w.heap.size ≤ b) ∧ Kept (· ∉ F) w w'

set_option maxRecDepth 100000 in
theorem rOf_yes (w : World) (rb : Nat) (F : List Nat) (xs : List ByteArray) (s : ByteArray) (hT : RTab w rb F xs) (hs : s ∈ xs) (hl : xs.length ≤ 65536) :
    Calls Try.prog 10 #[.pointer (some ⟨rb, 0, none⟩), .string s] w fun e w' => e = .returned (.tuple #[.int .i64 (xs.idxOf s), .bool true]) ∧ w' = w := by
  have hc := rFind_yes w rb F xs s hT hs hl
  clear hT hs
  go_enter Try.func10, Try.ntmps10
  go_wp2_with fail
  refine hc.mono ?_
  rintro e w' ⟨rfl, rfl⟩
  clear hc
  go_wp2
  go_ret2
  exact ⟨rfl, rfl⟩

set_option maxRecDepth 100000 in
set_option maxHeartbeats 1000000 in
theorem rOf_no (w : World) (rb : Nat) (F : List Nat) (xs : List ByteArray) (s : ByteArray) (hT : RTab w rb F xs) (hs : s ∉ xs) (hl : xs.length < 65536) :
    Calls Try.prog 10 #[.pointer (some ⟨rb, 0, none⟩), .string s] w fun e w' => e = .returned (.tuple #[.int .i64 xs.length, .bool true]) ∧ GaveR w rb F (xs ++ [s]) w' := by
  obtain ⟨i0, hi, hz0, hz1, hz2⟩ := info_parts infoStr
  have hc := rFind_no w rb F xs s hT hs (by omega)
  have h1 : decide ((65536 : Int) ≤ (xs.length : Int)) = false := by simp; omega
  have hnum : (xs.length : Int) + 1 - 1 = xs.length := by omega
  go_enter Try.func10, Try.ntmps10
  go_wp2_with fail
  refine hc.mono ?_
  rintro e w' ⟨rfl, rfl⟩
  clear hc
  obtain ⟨p, cap, c0, _⟩ := hT.list
  obtain ⟨v, ho, hr, hne, rfl⟩ := hT
  obtain rfl : v = .slice p xs.length cap := by have := ho.c0; rw [c0] at this; exact (Option.some.inj this).symm
  have k0 : Kept (fun b => some b ≠ Value.ownBlock (.slice p xs.length cap)) w' (w'.alloc (.cells #[.string s] 9)) := Kept.alloc _ _
  go_wp2_with (first
    | (at_builtin; refine wpList_append_own_at _ rfl _ _ 22 rfl 0 9 i0 (.string ⟨#[]⟩) 1 16 Try.underlying22 hi hz0 hz1 hz2 rfl (by decide) (.slice p xs.length cap) _ _ rfl (hr.alloc _) ⟨w'.heap.size, 0, none⟩ 1 1 [.string s] rfl rfl (cell_one_new _ _ _) (by simp [Value.oneCell']) (by unfold maxLen; omega) (by omega) (Nat.zero_le _) ?_; intro v' w1 hown' hgrow hnil hloc; obtain ⟨g', cap', rfl⟩ := shape_of hown'; have o1 := ho.kept (k0.trans (Kept.of_grown hgrow (fun k e => by simp [e]))) (fun e => hne e.symm); have d0 := o1.c0; have f0 := o1.f0; have o2 := o1.set (.slice (some ⟨g', 0, none⟩) (xs.length + 1) cap'); have e0 := o2.c0)
    | go_in)
  go_ret2
  have hsz : (w'.alloc (.cells #[.string s] 9)).heap.size = w'.heap.size + 1 := by simp
  have hlt := ho.lt
  have hv1 : (Value.slice (some ⟨g', 0, none⟩) (xs.length + 1) cap').ownBlock ≠ some rb := by
    rcases hloc with e | e
    · rw [e]; exact hne
    · rw [e, hsz]; simp; omega
  have k1 : Kept (fun b => b ∉ rb :: (Value.ownBlock (.slice p xs.length cap)).toList) w' (w'.alloc (.cells #[.string s] 9)) := Kept.alloc _ _
  have k2 : Kept (fun b => b ∉ rb :: (Value.ownBlock (.slice p xs.length cap)).toList) (w'.alloc (.cells #[.string s] 9)) w1 := Kept.of_grown hgrow (fun k e => by simp [e])
  have k3 : Kept (fun b => b ∉ rb :: (Value.ownBlock (.slice p xs.length cap)).toList) w1 (w1.setCell ⟨rb, 0, none⟩ (.slice (some ⟨g', 0, none⟩) (xs.length + 1) cap')) := Kept.setCell _ _ _ (by simp)
  refine ⟨rfl, _, ⟨_, o2, ?_, hv1, rfl⟩, fun b hb => ?_, (k1.trans k2).trans k3⟩
  · rw [List.length_append, List.map_append]
    exact row_kept hown' (keep := fun b => b ≠ rb) (Kept.setCell w1 ⟨rb, 0, none⟩ _ (by simp)) (fun k e e' => hv1 (by rw [e, e']))
  · rcases List.mem_cons.1 hb with rfl | hb
    · exact .inl (List.mem_cons_self ..)
    · rcases hloc with e | e
      · exact .inl (List.mem_cons_of_mem _ (by rw [← e]; exact hb))
      · rw [e, hsz] at hb
        simp at hb
        exact .inr (by omega)

end Go.Proofs.Ytbgcnmebmbjdjaa
