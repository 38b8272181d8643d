/- package tok's reader: texts of code points, names, strings. -/
import Derived.Test.YtlgfmncflnipgaaDoorTkEsc
import Derived.Test.YtlgfmncflnipgaaDoorEnc
import Derived.Laws.IdiomStrings
import Derived.Laws.BytesArg
namespace Go.Proofs.YtlgfmncflnipgaaDoor
open Go Go.RowKit Go.Shelf

/-- The text of code points. -/
def txtOf (t : List Int) : ByteArray := ⟨(encs t).toArray⟩
theorem txtOf_nil : txtOf [] = ⟨#[]⟩ := rfl
theorem grown_of_below {w w' : World} (h : Below w.heap.size w w') (row : Option Nat) : w.grownBy w' row := ⟨h.os, h.tape, h.output, h.size, fun i hi _ => h.block i hi⟩
theorem fixC_fixC (c : Int) : fixC (fixC c) = fixC c := fixC_yes (rightB_iff.2 (fixC_right c))
theorem enc1_fix (c : Int) : enc1 (fixC c) = enc1 c := by unfold enc1; rw [fixC_fixC]
theorem encs_fix (l : List Int) : encs (l.map fixC) = encs l := by
  induction l with
  | nil => rfl
  | cons c t ih =>
    have e1 : encs (c :: t) = enc1 c ++ encs t := by simp [encs]
    have e2 : encs ((c :: t).map fixC) = enc1 (fixC c) ++ encs (t.map fixC) := by simp [encs]
    rw [e1, e2, enc1_fix, ih]

theorem bytes_list {v : Value} {W : World} {n₀ : Nat} {l : List UInt8} (h : BytesAt n₀ W v l) : ∃ p cap, v = .slice p l.length cap := by
  rcases h.cases with ⟨rfl, p, cap, rfl⟩ | ⟨bk, off, cap, rfl, _⟩
  · exact ⟨_, _, rfl⟩
  · exact ⟨_, _, rfl⟩

theorem addr_add (g off j : Nat) : (⟨g, off, none⟩ : Addr).add j = ⟨g, off + j, none⟩ := by
  cases j with
  | zero => rfl
  | succ j => simp [Addr.add]
/-- The string of a slice of bytes. -/
theorem str_of_bytes {v : Value} {W : World} {n₀ : Nat} {l : List UInt8} (h : BytesAt n₀ W v l) : (convert 22 9 v).run Tryd.prog W = .ok (.string ⟨l.toArray⟩) W := by
  rcases h with ⟨rfl, rfl | ⟨x, cap, rfl⟩⟩ | ⟨bk, off, cap, rfl, _, _, _, hc⟩
  · exact run_convert_bytes_nil W 22 5 Tryd.underlying22 Tryd.underlying5 0 0 9 Tryd.underlying9
  · exact run_convert_bytes_back W 22 9 5 x cap [] Tryd.underlying22 Tryd.underlying5 Tryd.underlying9 (fun j hj => absurd hj (Nat.not_lt_zero j))
  · refine run_convert_bytes_back W 22 9 5 ⟨bk, off, none⟩ cap l Tryd.underlying22 Tryd.underlying5 Tryd.underlying9 (fun j hj => ?_)
    rw [addr_add]
    exact hc j _ (List.getElem?_eq_getElem hj)

set_option maxHeartbeats 1000000 in
theorem encoded_any (v : Value) (l : List Int) (w : World) (hI : IntsAt w.heap.size w v l) (hl : l.length ≤ 1000000) :
    Calls Tryd.prog 19 #[v] w fun e w' => e = .returned (.string (txtOf l)) ∧ Below w.heap.size w w' := by
  have h1 := bytes_any v l w hI hl
  obtain ⟨p, cap, rfl⟩ := hI.len
  go_enter Tryd.func19, Tryd.ntmps19
  go_wp2_with fail
  refine h1.mono ?_
  rintro e w1 ⟨v1, rfl, hr, b1⟩
  have hc := str_of_bytes (BytesAt.of_owns hr rfl)
  go_wp2
  go_ret
  exact ⟨rfl, b1⟩

/-! ### what a reader keeps -/
theorem At.kept_far {W W' : World} {n₀ R : Nat} {row : Option Nat} {raw l : List Int} (h : At n₀ W R raw l) (hg : W.grownBy W' row) (hr : ∀ j, row = some j → R < j) : At n₀ W' R raw l := by
  obtain ⟨v, a, hd, e⟩ := h
  exact ⟨v, a, ⟨hd.pair.kept hg (fun e => by have := hr _ e.symm; omega), hd.ints.below (((Below.refl R W).grown hg (Nat.le_of_lt hd.pair.lt) (fun r e => by have := hr r e; omega)).mono hd.low), hd.low, hd.least, hd.most⟩, e⟩
theorem owns_far {X Y : World} {b R : Nat} {e : TypeId} {size : Nat} {v : Value} {m : Nat} {xs : List Value} (h : X.ownsRow b e size v m xs) (hg : X.grownBy Y (some R)) (hR : R < b) : Y.ownsRow b e size v m xs :=
  h.kept hg (.inr (fun e => by have := h.lt R e; omega))
theorem At.len {W : World} {n₀ R : Nat} {raw l : List Int} (h : At n₀ W R raw l) : l.length ≤ raw.length ∧ raw.length ≤ 1000000 := by
  obtain ⟨v, a, hr, rfl⟩ := h
  refine ⟨?_, hr.most⟩
  rw [List.length_drop, List.length_map]
  omega
theorem infoInt' : (Tryd.prog.info? 3).map (fun i => (i.zero, i.size, i.bytes)) = some (some (.int .i64 0), 1, 8) := by kernel_rfl

theorem escAt_parts {l : List Int} (h : escAt l = true) : ∃ c r, l = c :: r ∧ r ≠ [] := by
  match l, h with
  | [], h => exact absurd h (by decide)
  | [c], h => exact absurd h (by simp [escAt, see])
  | c :: d :: r, _ => exact ⟨c, d :: r, rfl, by simp⟩

set_option maxRecDepth 100000 in
set_option maxHeartbeats 2000000 in
theorem name_any {w : World} {n₀ R : Nat} {raw l : List Int} (h : At n₀ w R raw l) :
    Calls Tryd.prog 56 #[.pointer (some ⟨R, 0, none⟩)] w fun e w' => e = .returned (.string (txtOf (name l).1)) ∧ At n₀ w' R raw (name l).2 ∧ w.grownBy w' (some R) := by
  obtain ⟨i0, hi, hz0, hz1, hz2⟩ := info_parts infoInt'
  have hR := h.lt
  have hlen := h.len
  go_enter Tryd.func56, Tryd.ntmps56
  go_wp2
  go_loopw [3] (fun o wr => ∃ t l' : List Int, wr.ownsRow w.heap.size 3 1 o t.length (t.map (Value.int .i64)) ∧ At n₀ wr R raw l' ∧ (t ++ (name l').1, (name l').2) = name l ∧ t.length + l'.length ≤ l.length ∧ w.grownBy wr (some R)) (fun _ wr => lenOf raw wr R)
  case atStart => exact ⟨[], l, World.ownsRow_nil _ _ _ _, h, rfl, by simp, World.grownBy.refl _ _⟩
  case round =>
    obtain ⟨t, l', hown, h', e', hl', g'⟩ := hrel
    have hm := h'.lenOf
    have hw := g'.size
    have h1 := ahead_any 0 (by omega) h'
    have h2 := isNamePoint_any (see l' 0)
    have h3 : ∀ w1 (g : wr.grownBy w1 none), Calls Tryd.prog 39 #[.pointer (some ⟨R, 0, none⟩), .int .i64 0] w1 fun e w' => e = .returned (.bool (escAt l')) ∧ w1.grownBy w' none := fun w1 g => escapes_any 0 (by omega) (h'.kept g)
    cases hp : namePt (see l' 0) with
    | true =>
      obtain ⟨c, r, rfl⟩ : ∃ c r, l' = c :: r := List.exists_cons_of_ne_nil (fun e => by rw [e] at hp; exact absurd hp (by decide))
      rw [see_zero] at hp h1 h2
      have e2 : ((t ++ [c]) ++ (name r).1, (name r).2) = name l := by rw [← e', name_cons, if_pos hp]; simp
      rw [hp] at h2
      clear e' h3 hp
      go_wp2_with fail
      refine h1.mono ?_
      rintro e w1 ⟨rfl, g1⟩
      go_wp2_with fail
      refine (h2 _).mono ?_
      rintro e w' ⟨rfl, rfl⟩
      have h4 := take_any (h'.kept g1)
      go_wp2_with fail
      refine h4.mono ?_
      clear h4
      rintro e w2 ⟨rfl, k2, g2⟩
      have g12 := (grown_but g1 (some R)).trans g2
      have hown2 := owns_far hown g12 hR
      have hs2 := g12.size
      clear hown
      simp only [List.length_cons] at hl'
      go_wp2_with (at_builtin; refine wpList_append_own _ rfl _ _ 31 rfl w.heap.size 3 i0 (.int .i64 0) 1 8 Tryd.underlying31 hi hz0 hz1 hz2 rfl (by decide) _ _ _ rfl (hown2.alloc _) ⟨w2.heap.size, 0, none⟩ 1 1 [.int .i64 c] rfl rfl (cells_new _ [.int .i64 c] _) (fun x hx => by simp at hx; subst hx; rfl) (by unfold maxLen; omega) (by omega) (by simp; omega) ?_; intro v' w3 hown3 hgrow3 hnil3)
      have far : ∀ j, (_ : Value).ownBlock = some j → R < j := fun j e => by have := (hown2.lt j e).1; omega
      have k3 := (k2.kept (World.grownBy_alloc w2 _ none)).kept_far hgrow3 far
      have hm3 := k3.lenOf
      refine ⟨⟨t ++ [c], r, by simpa using hown3, k3, e2, by simp; omega, ?_⟩, by rw [hm, hm3]; simp⟩
      exact ((g'.trans g12).trans (World.grownBy_alloc w2 _ _)).andThen hgrow3 (fun j e => .inl (hown2.lt j e).1)
    | false =>
      rw [hp] at h2
      cases he : escAt l' with
      | true =>
        obtain ⟨c, r, rfl, hr⟩ : ∃ c r, l' = c :: r ∧ r ≠ [] := escAt_parts he
        have hsl := escd_len c r
        have e2 : ((t ++ [(escd (c :: r)).1]) ++ (name (escd (c :: r)).2).1, (name (escd (c :: r)).2).2) = name l := by
          rw [see_zero] at hp
          rw [← e', name_cons, hp, if_neg (by decide), he, if_pos rfl]
          simp
        rw [he] at h3
        have h4 := fun w1 (g : wr.grownBy w1 none) => escape_any (h'.kept g) hr
        generalize (escd (c :: r)).1 = y at *
        generalize (escd (c :: r)).2 = r2 at *
        rw [see_zero] at h1 h2
        clear e' hp he
        go_wp2_with fail
        refine h1.mono ?_
        rintro e w1 ⟨rfl, g1⟩
        go_wp2_with fail
        refine (h2 _).mono ?_
        rintro e w' ⟨rfl, rfl⟩
        go_wp2_with fail
        refine (h3 _ g1).mono ?_
        rintro e w2 ⟨rfl, g2⟩
        have g12 := g1.trans g2
        go_wp2_with fail
        refine (h4 _ g12).mono ?_
        clear h4
        rintro e w3 ⟨rfl, k3, g3⟩
        have g13 := (grown_but g12 (some R)).trans g3
        have hown2 := owns_far hown g13 hR
        have hs2 := g13.size
        clear hown
        simp only [List.length_cons] at hl'
        go_wp2_with (at_builtin; refine wpList_append_own _ rfl _ _ 31 rfl w.heap.size 3 i0 (.int .i64 0) 1 8 Tryd.underlying31 hi hz0 hz1 hz2 rfl (by decide) _ _ _ rfl (hown2.alloc _) ⟨w3.heap.size, 0, none⟩ 1 1 [.int .i64 y] rfl rfl (cells_new _ [.int .i64 y] _) (fun x hx => by simp at hx; subst hx; rfl) (by unfold maxLen; omega) (by omega) (by simp; omega) ?_; intro v' w4 hown4 hgrow4 hnil4)
        have far : ∀ j, (_ : Value).ownBlock = some j → R < j := fun j e => by have := (hown2.lt j e).1; omega
        have k4 := (k3.kept (World.grownBy_alloc w3 _ none)).kept_far hgrow4 far
        have hm4 := k4.lenOf
        refine ⟨⟨t ++ [y], r2, by simpa using hown4, k4, e2, by simp; omega, ?_⟩, by rw [hm, hm4]; simp; omega⟩
        exact ((g'.trans g13).trans (World.grownBy_alloc w3 _ _)).andThen hgrow4 (fun j e => .inl (hown2.lt j e).1)
      | false =>
        have e2 : name l = (t, l') := by rw [← e', name_stop hp he, List.append_nil]
        have HE : Hid (name l = (t, l')) := e2
        rw [he] at h3
        clear e' hp he e2
        go_wp2_with fail
        refine h1.mono ?_
        rintro e w1 ⟨rfl, g1⟩
        go_wp2_with fail
        refine (h2 _).mono ?_
        rintro e w' ⟨rfl, rfl⟩
        go_wp2_with fail
        refine (h3 _ g1).mono ?_
        rintro e w2 ⟨rfl, g2⟩
        have g12 := g1.trans g2
        have hown2 := owns_far hown (grown_but g12 (some R)) hR
        have h4 := encoded_any _ t w2 (IntsAt.of_owns hown2 rfl) (by omega)
        go_wp2_with fail
        refine h4.mono ?_
        rintro e w3 ⟨rfl, b3⟩
        have g3 := grown_of_below b3 none
        go_wp2
        go_ret
        rw [show name l = _ from HE]
        exact ⟨rfl, (h'.kept g12).kept g3, (g'.trans (grown_but g12 _)).trans (grown_but g3 _)⟩

end Go.Proofs.YtlgfmncflnipgaaDoor
