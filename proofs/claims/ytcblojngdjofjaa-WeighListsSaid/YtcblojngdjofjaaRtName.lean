/- The document's own reader: names. -/
import Derived.Test.YtcblojngdjofjaaRtEsc
import Derived.Test.YtcblojngdjofjaaRtTxt
namespace Go.Proofs.Ytcblojngdjofjaa.Ref
open Go Go.RowKit Go.Shelf

/-- The bytes of the code points t, in a row that the call owns. -/
def Row (B : Nat) (W : World) (v : Value) (t : List Int) : Prop := W.ownsRow B 5 1 v (encs t).length (ubytes (encs t))
theorem Row.none (B : Nat) (W : World) : Row B W (.slice Option.none 0 0) [] := World.ownsRow_nil _ _ _ _
theorem Row.far {B R : Nat} {X Y : World} {v : Value} {t : List Int} (h : Row B X v t) (hg : X.grownBy Y (some R)) (hR : R < B) : Row B Y v t := owns_far h hg hR
theorem Row.str {B : Nat} {X : World} {v : Value} {t : List Int} (h : Row B X v t) : (convert 53 9 v).run Try.prog X = .ok (.string (txtOf t)) X := str_of_bytes (BytesAt.of_owns h rfl)
/-- put behind a row. -/
theorem Row.put {B R n₀ : Nat} {X : World} {v : Value} {t raw l : List Int} (h : Row B X v t) (c : Int) (hl : t.length ≤ 1000000) (hB : B ≤ X.heap.size) (hR : R < B) (hA : At n₀ X R raw l) :
    Calls Try.prog 42 #[v, .int .i64 c] X fun e w' => ∃ v', e = .returned v' ∧ Row B w' v' (t ++ [c]) ∧ At n₀ w' R raw l ∧ (∀ w0 : World, w0.heap.size ≤ B → w0.grownBy X (some R) → w0.grownBy w' (some R)) ∧ X.heap.size ≤ w'.heap.size ∧ ∀ i, i < B → w'.heap[i]? = X.heap[i]? := by
  have hlen := encs_len t
  have hput := put_any B v _ _ c X h (by omega) hB
  rw [← ubytes_enc1, ← ubytes_append, ubytes_length, ← List.length_append, ← encs_snoc] at hput
  refine hput.mono ?_
  rintro e w' ⟨v', rfl, hr, o, hg⟩
  have far : ∀ j, v.ownBlock = some j → R < j := fun j e => by have := (World.ownsRow.lt h j e).1; omega
  refine ⟨v', rfl, hr, (hA.kept (World.grownBy_alloc X o Option.none)).kept_far hg far, fun w0 e0 g => ?_, ?_, fun i hi => ?_⟩
  · exact (g.trans (World.grownBy_alloc X o _)).andThen hg (fun j e => .inl (Nat.le_trans e0 (World.ownsRow.lt h j e).1))
  · have := hg.size
    simp at this
    omega
  · rw [hg.block i (by simp; omega) (fun e => by have := (World.ownsRow.lt h i e.symm).1; omega)]
    exact Below.heap_alloc _ _ _ (by omega)

theorem escAt_two {l : List Int} (h : escAt l = true) : ∃ c d r, l = c :: d :: r := by
  obtain ⟨c, r, rfl, hr⟩ := escAt_parts h
  obtain ⟨d, r, rfl⟩ := List.exists_cons_of_ne_nil hr
  exact ⟨c, d, r, rfl⟩
theorem name_stop' {l : List Int} (h1 : namePt (see l 0) = false) (h2 : escAt l = false) : name l = ([], l) := by
  cases l with
  | nil => rfl
  | cons c r =>
    rw [see_zero] at h1
    rw [name_cons, h1, if_neg (by decide), h2, if_neg (by decide)]

set_option maxRecDepth 100000 in
set_option maxHeartbeats 2000000 in
theorem name_any {w : World} {n₀ R : Nat} {raw l : List Int} (h : At n₀ w R raw l) :
    Calls Try.prog 27 #[.pointer (some ⟨R, 0, none⟩)] w fun e w' => e = .returned (.string (txtOf (name l).1)) ∧ At n₀ w' R raw (name l).2 ∧ w.grownBy w' (some R) := by
  have hR := h.lt
  have hlen := h.len
  obtain ⟨N, L, hNL⟩ : ∃ N L, name l = (N, L) := ⟨_, _, rfl⟩
  have HN : Hid (name l = (N, L)) := hNL
  rw [hNL]
  clear hNL
  go_enter Try.func27, Try.ntmps27
  go_wp2
  go_loopw [3] (fun o wr => ∃ t l' : List Int, Row w.heap.size wr o t ∧ At n₀ wr R raw l' ∧ (t ++ (name l').1, (name l').2) = (N, L) ∧ t.length + l'.length ≤ l.length ∧ w.grownBy wr (some R)) (fun _ wr => lenOf raw wr R)
  case atStart => exact ⟨[], l, Row.none _ _, h, HN, by simp, World.grownBy.refl _ _⟩
  case round =>
    obtain ⟨t, l', hrow, h', e', hl', g'⟩ := hrel
    have hm := h'.lenOf
    have hw := g'.size
    have s0 := see0 h'
    have np := namePoint_any (see l' 0)
    have es := esc0 h'
    have g0 : wr.grownBy wr none := World.grownBy.refl _ _
    clear h HN
    cases hp : namePt (see l' 0) with
    | true =>
      obtain ⟨c, r, rfl⟩ : ∃ c r, l' = c :: r := List.exists_cons_of_ne_nil (fun e => by rw [e] at hp; exact absurd hp (by decide))
      rw [hp] at np
      rw [see_zero] at hp s0 np
      have HE : Hid (((t ++ [c]) ++ (name r).1, (name r).2) = (N, L)) := by
        show _ = _
        rw [← e', name_cons, if_pos hp]
        simp
      clear e' es hp
      simp only [List.length_cons] at hl'
      go_wp2_with fail
      refine (s0 _ g0).mono ?_
      rintro e W1 ⟨rfl, g1⟩
      go_wp2_with fail
      refine (np _).mono ?_
      rintro e W1 ⟨rfl, rfl⟩
      have hrow1 := hrow.far (grown_but g1 (some R)) hR
      have hput := hrow1.put c (by omega) (Nat.le_trans hw g1.size) hR (h'.kept g1)
      go_wp2_with fail
      refine hput.mono ?_
      clear hput
      rintro e W2 ⟨v2, rfl, hrow2, k2, G2, _⟩
      have g2 := G2 w (Nat.le_refl _) (g'.trans (grown_but g1 _))
      obtain ⟨a, ca, fa, ha, hs⟩ := k2.step
      clear G2
      go_wp2
      obtain ⟨k3, g3⟩ := hs _ rfl
      have hm3 := k3.lenOf
      exact ⟨⟨t ++ [c], r, hrow2.far g3 hR, k3, HE, by simp; omega, g2.trans g3⟩, by rw [hm, hm3]; simp⟩
    | false =>
      rw [hp] at np
      cases he : escAt l' with
      | true =>
        obtain ⟨c, d, r, rfl⟩ := escAt_two he
        have hsl := escd_len c (d :: r)
        have HE : Hid (((t ++ [(escd (c :: d :: r)).1]) ++ (name (escd (c :: d :: r)).2).1, (name (escd (c :: d :: r)).2).2) = (N, L)) := by
          show _ = _
          rw [see_zero] at hp
          rw [← e', name_cons c (d :: r), hp, if_neg (by decide), he, if_pos rfl]
          simp
        rw [he] at es
        have ec := escaped_any h'
        generalize (escd (c :: d :: r)).1 = y at *
        generalize (escd (c :: d :: r)).2 = r2 at *
        rw [see_zero] at s0 np
        clear e' hp he
        simp only [List.length_cons] at hl' hsl
        go_wp2_with fail
        refine (s0 _ g0).mono ?_
        rintro e W1 ⟨rfl, g1⟩
        go_wp2_with fail
        refine (np _).mono ?_
        rintro e W1 ⟨rfl, rfl⟩
        go_wp2_with fail
        refine (es _ g1).mono ?_
        rintro e W2 ⟨rfl, g2⟩
        go_wp2_with fail
        refine (ec _ g2).mono ?_
        rintro e W3 ⟨rfl, k3, g3⟩
        have hrow3 := hrow.far g3 hR
        have hput := hrow3.put y (by omega) (Nat.le_trans hw g3.size) hR k3
        go_wp2_with fail
        refine hput.mono ?_
        clear hput
        rintro e W4 ⟨v4, rfl, hrow4, k4, G4, _⟩
        have g4 := G4 w (Nat.le_refl _) (g'.trans g3)
        have hm4 := k4.lenOf
        clear G4
        go_wp2
        exact ⟨⟨t ++ [y], r2, hrow4, k4, HE, by simp; omega, g4⟩, by rw [hm, hm4]; simp; omega⟩
      | false =>
        have e2 : (t, l') = (N, L) := by rw [← e', name_stop' hp he, List.append_nil]
        cases e2
        rw [he] at es
        clear e' hp he
        go_wp2_with fail
        refine (s0 _ g0).mono ?_
        rintro e W1 ⟨rfl, g1⟩
        go_wp2_with fail
        refine (np _).mono ?_
        rintro e W1 ⟨rfl, rfl⟩
        go_wp2_with fail
        refine (es _ g1).mono ?_
        rintro e W2 ⟨rfl, g2⟩
        have hc := (hrow.far (grown_but g2 (some R)) hR).str
        go_wp2
        go_ret
        exact ⟨rfl, h'.kept g2, g'.trans (grown_but g2 _)⟩

end Go.Proofs.Ytcblojngdjofjaa.Ref
