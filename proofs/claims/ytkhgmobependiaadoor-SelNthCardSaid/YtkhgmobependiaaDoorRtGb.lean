/- The document's own reader: names. -/
import Derived.Test.YtkhgmobependiaaDoorRtEsc
import Derived.Test.YtkhgmobependiaaDoorRtTxt
import Derived.Test.YtkhgmobependiaaDoorRsMem
namespace Go.Proofs.YtkhgmobependiaaDoor.Ref
open Go Go.RowKit Go.Shelf

/-- The bytes of the code points t, in a row that the call owns. -/
def Row (B : Nat) (W : World) (v : Value) (t : List Int) : Prop := W.ownsRow B 5 1 v (encs t).length (ubytes (encs t))
theorem Row.none (B : Nat) (W : World) : Row B W (.slice Option.none 0 0) [] := World.ownsRow_nil _ _ _ _
theorem Row.far {B R : Nat} {X Y : World} {v : Value} {t : List Int} (h : Row B X v t) (hg : X.grownBy Y (some R)) (hR : R < B) : Row B Y v t := owns_far h hg hR
theorem Row.str {B : Nat} {X : World} {v : Value} {t : List Int} (h : Row B X v t) : (convert 48 9 v).run Tryd.prog X = .ok (.string (txtOf t)) X := str_of_bytes (BytesAt.of_owns h rfl)
/-- put behind a row. -/
theorem Row.put {B R n₀ : Nat} {X : World} {v : Value} {t raw l : List Int} (h : Row B X v t) (c : Int) (hl : t.length ≤ 1000000) (hB : B ≤ X.heap.size) (hR : R < B) (hA : At n₀ X R raw l) :
    Calls Tryd.prog 32 #[v, .int .i64 c] X fun e w' => ∃ v', e = .returned v' ∧ Row B w' v' (t ++ [c]) ∧ At n₀ w' R raw l ∧ (∀ w0 : World, w0.heap.size ≤ B → w0.grownBy X (some R) → w0.grownBy w' (some R)) ∧ X.heap.size ≤ w'.heap.size ∧ ∀ i, i < B → w'.heap[i]? = X.heap[i]? := by
  have hlen := encs_len t
  have hput := put_any B v _ _ c X h (by omega) hB
  rw [← ubytes_enc1, ← ubytes_append, ubytes_length, ← List.length_append, ← encs_snoc] at hput
  refine hput.mono ?_
  rintro e w' ⟨v', rfl, hr, o, hg⟩
  have far : ∀ j, v.ownBlock = some j → R < j := fun j e => by have := (World.ownsRow.lt h j e).1; omega
  refine ⟨v', rfl, hr, (hA.kept (World.grownBy_alloc X o Option.none)).kept_far hg far, fun w0 e0 g => ?_, ?_, fun i hi => ?_⟩
  · exact (g.trans (World.grownBy_alloc X o _)).andThen hg (fun j e => .inl (Nat.le_trans e0 (World.ownsRow.lt h j e).1))
  · have := hg.size
    simp at this
    omega
  · rw [hg.block i (by simp; omega) (fun e => by have := (World.ownsRow.lt h i e.symm).1; omega)]
    exact Below.heap_alloc _ _ _ (by omega)

theorem escAt_two {l : List Int} (h : escAt l = true) : ∃ c d r, l = c :: d :: r := by
  obtain ⟨c, r, rfl, hr⟩ := escAt_parts h
  obtain ⟨d, r, rfl⟩ := List.exists_cons_of_ne_nil hr
  exact ⟨c, d, r, rfl⟩
theorem name_stop' {l : List Int} (h1 : namePt (see l 0) = false) (h2 : escAt l = false) : name l = ([], l) := by
  cases l with
  | nil => rfl
  | cons c r =>
    rw [see_zero] at h1
    rw [name_cons, h1, if_neg (by decide), h2, if_neg (by decide)]

set_option maxRecDepth 100000 in
set_option maxHeartbeats 2000000 in
theorem name_any {w : World} {n₀ R : Nat} {raw l : List Int} (h : At n₀ w R raw l) :
    Calls Tryd.prog 21 #[.pointer (some ⟨R, 0, none⟩)] w fun e w' => e = .returned (.string (txtOf (name l).1)) ∧ At n₀ w' R raw (name l).2 ∧ w.grownBy w' (some R) := by
  have hR := h.lt
  have hlen := h.len
  obtain ⟨N, L, hNL⟩ : ∃ N L, name l = (N, L) := ⟨_, _, rfl⟩
  have HN : Hid (name l = (N, L)) := hNL
  rw [hNL]
  clear hNL
  go_enter Tryd.func21, Tryd.ntmps21
  go_wp2
  go_loopw [3] (fun o wr => ∃ t l' : List Int, Row w.heap.size wr o t ∧ At n₀ wr R raw l' ∧ (t ++ (name l').1, (name l').2) = (N, L) ∧ t.length + l'.length ≤ l.length ∧ w.grownBy wr (some R)) (fun _ wr => lenOf raw wr R)
  case atStart => exact ⟨[], l, Row.none _ _, h, HN, by simp, World.grownBy.refl _ _⟩
  case round =>
    obtain ⟨t, l', hrow, h', e', hl', g'⟩ := hrel
    have hm := h'.lenOf
    have hw := g'.size
    have s0 := see0 h'
    have np := namePoint_any (see l' 0)
    have es := esc0 h'
    have g0 : wr.grownBy wr none := World.grownBy.refl _ _
    clear h HN
    cases hp : namePt (see l' 0) with
    | true =>
      obtain ⟨c, r, rfl⟩ : ∃ c r, l' = c :: r := List.exists_cons_of_ne_nil (fun e => by rw [e] at hp; exact absurd hp (by decide))
      rw [hp] at np
      rw [see_zero] at hp s0 np
      have HE : Hid (((t ++ [c]) ++ (name r).1, (name r).2) = (N, L)) := by
        show _ = _
        rw [← e', name_cons, if_pos hp]
        simp
      clear e' es hp
      simp only [List.length_cons] at hl'
      go_wp2_with fail
      refine (s0 _ g0).mono ?_
      rintro e W1 ⟨rfl, g1⟩
      go_wp2_with fail
      refine (np _).mono ?_
      rintro e W1 ⟨rfl, rfl⟩
      have hrow1 := hrow.far (grown_but g1 (some R)) hR
      have hput := hrow1.put c (by omega) (Nat.le_trans hw g1.size) hR (h'.kept g1)
      go_wp2_with fail
      refine hput.mono ?_
      clear hput
      rintro e W2 ⟨v2, rfl, hrow2, k2, G2, _⟩
      have g2 := G2 w (Nat.le_refl _) (g'.trans (grown_but g1 _))
      obtain ⟨a, ca, fa, ha, hs⟩ := k2.step
      clear G2
      go_wp2
      obtain ⟨k3, g3⟩ := hs _ rfl
      have hm3 := k3.lenOf
      exact ⟨⟨t ++ [c], r, hrow2.far g3 hR, k3, HE, by simp; omega, g2.trans g3⟩, by rw [hm, hm3]; simp⟩
    | false =>
      rw [hp] at np
      cases he : escAt l' with
      | true =>
        obtain ⟨c, d, r, rfl⟩ := escAt_two he
        have hsl := escd_len c (d :: r)
        have HE : Hid (((t ++ [(escd (c :: d :: r)).1]) ++ (name (escd (c :: d :: r)).2).1, (name (escd (c :: d :: r)).2).2) = (N, L)) := by
          show _ = _
          rw [see_zero] at hp
          rw [← e', name_cons c (d :: r), hp, if_neg (by decide), he, if_pos rfl]
          simp
        rw [he] at es
        have ec := escaped_any h'
        generalize (escd (c :: d :: r)).1 = y at *
        generalize (escd (c :: d :: r)).2 = r2 at *
        rw [see_zero] at s0 np
        clear e' hp he
        simp only [List.length_cons] at hl' hsl
        go_wp2_with fail
        refine (s0 _ g0).mono ?_
        rintro e W1 ⟨rfl, g1⟩
        go_wp2_with fail
        refine (np _).mono ?_
        rintro e W1 ⟨rfl, rfl⟩
        go_wp2_with fail
        refine (es _ g1).mono ?_
        rintro e W2 ⟨rfl, g2⟩
        go_wp2_with fail
        refine (ec _ g2).mono ?_
        rintro e W3 ⟨rfl, k3, g3⟩
        have hrow3 := hrow.far g3 hR
        have hput := hrow3.put y (by omega) (Nat.le_trans hw g3.size) hR k3
        go_wp2_with fail
        refine hput.mono ?_
        clear hput
        rintro e W4 ⟨v4, rfl, hrow4, k4, G4, _⟩
        have g4 := G4 w (Nat.le_refl _) (g'.trans g3)
        have hm4 := k4.lenOf
        clear G4
        go_wp2
        exact ⟨⟨t ++ [y], r2, hrow4, k4, HE, by simp; omega, g4⟩, by rw [hm, hm4]; simp; omega⟩
      | false =>
        have e2 : (t, l') = (N, L) := by rw [← e', name_stop' hp he, List.append_nil]
        cases e2
        rw [he] at es
        clear e' hp he
        go_wp2_with fail
        refine (s0 _ g0).mono ?_
        rintro e W1 ⟨rfl, g1⟩
        go_wp2_with fail
        refine (np _).mono ?_
        rintro e W1 ⟨rfl, rfl⟩
        go_wp2_with fail
        refine (es _ g1).mono ?_
        rintro e W2 ⟨rfl, g2⟩
        have hc := (hrow.far (grown_but g2 (some R)) hR).str
        go_wp2
        go_ret
        exact ⟨rfl, h'.kept g2, g'.trans (grown_but g2 _)⟩

end Go.Proofs.YtkhgmobependiaaDoor.Ref

/- The document's own reader: strings. -/
namespace Go.Proofs.YtkhgmobependiaaDoor.Ref
open Go Go.RowKit Go.Shelf

/-! ### a token in a block of its own -/
def Five (W : World) (B : Nat) (a b c d e : Value) : Prop := W.heap[B]? = some (.cells #[a, b, c, d, e] 58 (0, 0))
theorem Five.lt {W : World} {B : Nat} {a b c d e : Value} (h : Five W B a b c d e) : B < W.heap.size := (Array.getElem?_eq_some_iff.1 h).1
theorem Five.cells {W : World} {B : Nat} {a b c d e : Value} (h : Five W B a b c d e) : W.cell? ⟨B, 0, none⟩ = some a ∧ W.cell? ⟨B, 1, none⟩ = some b ∧ W.cell? ⟨B, 2, none⟩ = some c ∧ W.cell? ⟨B, 3, none⟩ = some d ∧ W.cell? ⟨B, 4, none⟩ = some e := by
  simp [World.cell?, show W.heap[B]? = _ from h]
theorem Five.free {W : World} {B : Nat} {a b c d e : Value} (h : Five W B a b c d e) : W.frozen? ⟨B, 0, none⟩ = false ∧ W.frozen? ⟨B, 1, none⟩ = false ∧ W.frozen? ⟨B, 2, none⟩ = false ∧ W.frozen? ⟨B, 3, none⟩ = false ∧ W.frozen? ⟨B, 4, none⟩ = false := by
  simp [World.frozen?, show W.heap[B]? = _ from h]
theorem Five.kept {W W' : World} {row : Option Nat} {B : Nat} {a b c d e : Value} (h : Five W B a b c d e) (hg : W.grownBy W' row) (hne : some B ≠ row) : Five W' B a b c d e := (hg.block B h.lt hne).trans h
def setAll (W : World) (B : Nat) (a b c d e : Value) : World := ((((W.setCell ⟨B, 0, none⟩ a).setCell ⟨B, 1, none⟩ b).setCell ⟨B, 2, none⟩ c).setCell ⟨B, 3, none⟩ d).setCell ⟨B, 4, none⟩ e
theorem Five.set {W : World} {B : Nat} {a b c d e : Value} (h : Five W B a b c d e) (a' b' c' d' e' : Value) : Five (setAll W B a' b' c' d' e') B a' b' c' d' e' := by
  unfold Five at h ⊢
  simp [setAll, World.setCell, Array.getElem?_modify, h]
theorem grown_set (W : World) (b i : Nat) (v : Value) : W.grownBy (W.setCell ⟨b, i, none⟩ v) (some b) :=
  ⟨rfl, rfl, rfl, by simp [World.setCell], fun i _ hne => Below.heap_setCell _ _ _ _ (fun e => hne (by rw [e]))⟩
theorem grown_setAll (W : World) (B : Nat) (a b c d e : Value) : W.grownBy (setAll W B a b c d e) (some B) :=
  ((((grown_set _ _ _ _).trans (grown_set _ _ _ _)).trans (grown_set _ _ _ _)).trans (grown_set _ _ _ _)).trans (grown_set _ _ _ _)
theorem infoTok : (Tryd.prog.info? 58).map (·.size) = some 5 := by kernel_rfl
theorem Five.new (w : World) (a b c d e : Value) : Five (w.alloc (.cells #[a, b, c, d, e] 58)) w.heap.size a b c d e := heap_alloc_new w _
/-- A token as a result. -/
theorem Five.ret {W : World} {B : Nat} {a b c d e : Value} (h : Five W B a b c d e) {fn : Func} {p : Tmp} (hf : fn.results = #[.cell p 58]) (tmps : Array Value) (hp : tmps.getD p undef = .pointer (some ⟨B, 0, none⟩)) :
    (results fn tmps).run Tryd.prog W = .ok (.agg #[a, b, c, d, e]) W :=
  results_cell_row hf tmps W B _ _ _ _ hp h Tryd.underlying58 rfl infoTok
theorem grown_out {w W X : World} {R B : Nat} (h : w.grownBy W (some R)) (hB : w.heap.size ≤ B) (hg : W.grownBy X (some B)) : w.grownBy X (some R) :=
  h.andThen hg (fun j e => by cases e; exact .inl hB)
theorem At.kept_other {W W' : World} {n₀ R B : Nat} {raw l : List Int} (h : At n₀ W R raw l) (hg : W.grownBy W' (some B)) (hB : R < B) : At n₀ W' R raw l :=
  h.kept_far hg (fun j e => by cases e; exact hB)
theorem At.mem {W : World} {n₀ R : Nat} {raw l : List Int} (h : At n₀ W R raw l) {c : Int} (hc : c ∈ l) : 0 ≤ c := by
  obtain ⟨v, a, hr, rfl⟩ := h
  obtain ⟨x, _, rfl⟩ := List.mem_map.1 (List.mem_of_mem_drop hc)
  exact (fixC_right x).1

/-- A token by its text's bytes. -/
def btOf (t : Tk) : Bt := ⟨t.kind, txtOf t.text, t.n, t.whole, t.c⟩
/-- A token as a value. -/
def tkV (t : Tk) : Value := .agg #[.int .i64 t.kind, .string (txtOf t.text), .int .i64 t.n, .bool t.whole, .int .i64 t.c]
/-- The token of what stands in a string. -/
def strTk (o : Option (List Int)) : Tk := match o with
  | some t => ⟨4, t, 0, false, 0⟩
  | none => ⟨5, [], 0, false, 0⟩

set_option maxRecDepth 100000 in
set_option maxHeartbeats 4000000 in
theorem str_any {w : World} {n₀ R : Nat} {raw r : List Int} {q : Int} (h : At n₀ w R raw (q :: r)) :
    Calls Tryd.prog 18 #[.pointer (some ⟨R, 0, none⟩)] w fun e w' => e = .returned (tkV (strTk (str q r).1)) ∧ At n₀ w' R raw (str q r).2 ∧ w.grownBy w' (some R) := by
  have hR := h.lt
  have hlen := h.len
  have hq0 : 0 ≤ q := h.mem (List.mem_cons_self ..)
  rw [List.length_cons] at hlen
  have t0 := Five.new w (.int .i64 0) (.string ⟨#[]⟩) (.int .i64 0) (.bool false) (.int .i64 0)
  have g0 : w.grownBy (w.alloc (.cells #[.int .i64 0, .string ⟨#[]⟩, .int .i64 0, .bool false, .int .i64 0] 58)) none := World.grownBy_alloc _ _ _
  have s0 := see0 (h.kept g0)
  rw [see_zero] at s0
  obtain ⟨S, L, hSL⟩ : ∃ S L, str q r = (S, L) := ⟨_, _, rfl⟩
  have HS : Hid (str q r = (S, L)) := hSL
  rw [hSL]
  clear hSL
  go_enter Tryd.func18, Tryd.ntmps18
  go_wp2_with fail
  refine (s0 _ (World.grownBy.refl _ _)).mono ?_
  rintro e w1 ⟨rfl, g1⟩
  replace t0 := t0.kept g1 (by simp)
  replace g1 := g0.trans g1
  obtain ⟨a, ca, fa, ha, hs⟩ := (h.kept g1).step
  clear h s0 g0
  go_wp2
  obtain ⟨k2, g2⟩ := hs _ rfl
  replace t0 := t0.kept g2 (by simp; omega)
  clear ca fa hs
  generalize World.setCell w1 _ _ = w2 at *
  replace g2 := (grown_but g1 (some R)).trans g2
  clear g1
  have hw2 : w.heap.size + 1 ≤ w2.heap.size := t0.lt
  go_loopw [4] (fun o wr => ∃ t l' : List Int, Row (w.heap.size + 1) wr o t ∧ At n₀ wr R raw l' ∧ (S, L) = ((str q l').1.map (t ++ ·), (str q l').2) ∧ t.length + l'.length ≤ r.length ∧ w.grownBy wr (some R) ∧ w.heap.size + 1 ≤ wr.heap.size ∧ Five wr w.heap.size (.int .i64 0) (.string ⟨#[]⟩) (.int .i64 0) (.bool false) (.int .i64 0)) (fun _ wr => lenOf raw wr R)
  case atStart => exact ⟨[], r, Row.none _ _, k2, by rw [← show str q r = _ from HS]; simp, by simp, g2, hw2, t0⟩
  case round =>
    clear k2 g2 hw2 t0 HS
    obtain ⟨t, l', hrow, h', e', hl', g', hw', t'⟩ := hrel
    have hm := h'.lenOf
    have g0 : wr.grownBy wr none := World.grownBy.refl _ _
    have s0 := see0 h'
    have s1 := see1 h'
    cases l' with
    | nil =>
      obtain ⟨rfl, rfl⟩ : S = some t ∧ L = [] := by rw [str_nil] at e'; simpa using e'
      rw [see_nil] at s0
      clear e' s1
      go_wp2_with fail
      refine (s0 _ g0).mono ?_
      rintro e w1 ⟨rfl, g1⟩
      have hc := (hrow.far (grown_but g1 (some R)) (by omega)).str
      have t4 := t'.kept g1 (by simp)
      obtain ⟨c0, c1, c2, c3, c4⟩ := t4.cells
      obtain ⟨f0, f1, f2, f3, f4⟩ := t4.free
      go_wp2
      refine bodyPost_ret ((t4.set _ _ _ _ _).ret rfl _ rfl) rfl ?_
      exact ⟨rfl, (h'.kept g1).kept_other (grown_setAll _ _ _ _ _ _ _) hR, grown_out (g'.trans (grown_but g1 _)) (Nat.le_refl _) (grown_setAll _ _ _ _ _ _ _)⟩
    | cons c r' =>
      have hc0 : 0 ≤ c := h'.mem (List.mem_cons_self ..)
      rw [see_zero] at s0
      simp only [List.length_cons] at hl'
      by_cases hcq : c = q
      · subst hcq
        obtain ⟨rfl, rfl⟩ : S = some t ∧ L = r' := by rw [str_cons, if_pos rfl] at e'; simpa using e'
        clear e' s1
        go_wp2_with fail
        refine (s0 _ g0).mono ?_
        rintro e w1 ⟨rfl, g1⟩
        obtain ⟨a, ca, fa, ha, hs⟩ := (h'.kept g1).step
        obtain ⟨k3, g3⟩ := hs _ rfl
        have g13 := (grown_but g1 (some R)).trans g3
        have hc := (hrow.far g13 (by omega)).str
        have t4 := t'.kept g13 (by simp; omega)
        obtain ⟨c0, c1, c2, c3, c4⟩ := t4.cells
        obtain ⟨f0, f1, f2, f3, f4⟩ := t4.free
        go_wp2
        refine bodyPost_ret ((t4.set _ _ _ _ _).ret rfl _ rfl) rfl ?_
        exact ⟨rfl, k3.kept_other (grown_setAll _ _ _ _ _ _ _) hR, grown_out (g'.trans g13) (Nat.le_refl _) (grown_setAll _ _ _ _ _ _ _)⟩
      · have hcq' : (c == q) = false := by simpa using hcq
        by_cases h10 : c = 10
        · subst h10
          obtain ⟨rfl, rfl⟩ : S = none ∧ L = 10 :: r' := by rw [str_cons, if_neg hcq, if_pos rfl] at e'; simpa using e'
          clear e' s1 hcq
          go_wp2_with fail
          refine (s0 _ g0).mono ?_
          rintro e w1 ⟨rfl, g1⟩
          have t4 := t'.kept g1 (by simp)
          obtain ⟨c0, c1, c2, c3, c4⟩ := t4.cells
          obtain ⟨f0, f1, f2, f3, f4⟩ := t4.free
          go_wp2
          refine bodyPost_ret ((t4.set _ _ _ _ _).ret rfl _ rfl) rfl ?_
          exact ⟨rfl, (h'.kept g1).kept_other (grown_setAll _ _ _ _ _ _ _) hR, grown_out (g'.trans (grown_but g1 _)) (Nat.le_refl _) (grown_setAll _ _ _ _ _ _ _)⟩
        · have h10' : (c == 10) = false := by simpa using h10
          by_cases h92 : c = 92
          · subst h92
            cases r' with
            | nil =>
              have HE : Hid ((S, L) = ((str q []).1.map (t ++ ·), (str q []).2)) := by
                show _ = _
                rw [e', str_cons, if_neg hcq, if_neg h10, if_pos rfl, if_pos rfl, str_nil]
              rw [show see [92] 1 = -1 from rfl] at s1
              clear e' hcq h10
              go_wp2_with fail
              refine (s0 _ g0).mono ?_
              rintro e w1 ⟨rfl, g1⟩
              go_wp2_with fail
              refine (s1 _ g1).mono ?_
              rintro e w2 ⟨rfl, g2⟩
              obtain ⟨a, ca, fa, ha, hs⟩ := (h'.kept g2).step
              go_wp2
              obtain ⟨k3, g3⟩ := hs _ rfl
              have g13 := (grown_but g2 (some R)).trans g3
              have hm3 := k3.lenOf
              exact ⟨⟨t, [], hrow.far g13 (by omega), k3, HE, by simp; omega, g'.trans g13, Nat.le_trans hw' g13.size, t'.kept g13 (by simp; omega)⟩, by rw [hm, hm3]; simp⟩
            | cons d r3 =>
              have hd0 : 0 ≤ d := h'.mem (by simp)
              have hdi : ¬ d < 0 := by omega
              rw [show see (92 :: d :: r3) 1 = d from rfl] at s1
              by_cases hd : d = 10
              · subst hd
                have HE : Hid ((S, L) = ((str q r3).1.map (t ++ ·), (str q r3).2)) := by
                  show _ = _
                  rw [e', str_cons, if_neg hcq, if_neg h10, if_pos rfl, if_neg (by simp), if_pos (by rfl)]
                  rfl
                clear e' hcq h10
                go_wp2_with fail
                refine (s0 _ g0).mono ?_
                rintro e w1 ⟨rfl, g1⟩
                go_wp2_with fail
                refine (s1 _ g1).mono ?_
                rintro e w2 ⟨rfl, g2⟩
                go_wp2_with fail
                refine (s1 _ g2).mono ?_
                rintro e w3 ⟨rfl, g3⟩
                obtain ⟨a, ca, fa, ha, hs⟩ := (h'.kept g3).step2
                go_wp2
                obtain ⟨k4, g4⟩ := hs _ rfl
                have g14 := (grown_but g3 (some R)).trans g4
                have hm4 := k4.lenOf
                exact ⟨⟨t, r3, hrow.far g14 (by omega), k4, HE, by simp only [List.length_cons] at hl'; omega, g'.trans g14, Nat.le_trans hw' g14.size, t'.kept g14 (by simp; omega)⟩, by rw [hm, hm4]; simp only [List.length_cons]; omega⟩
              · have hd' : (d == 10) = false := by simpa using hd
                have hsl := escd_len 92 (d :: r3)
                have HE : Hid ((S, L) = ((str q (escd (92 :: d :: r3)).2).1.map ((t ++ [(escd (92 :: d :: r3)).1]) ++ ·), (str q (escd (92 :: d :: r3)).2).2)) := by
                  show _ = _
                  rw [e', str_cons, if_neg hcq, if_neg h10, if_pos rfl, if_neg (by simp), if_neg (by rw [see_zero]; exact hd)]
                  simp [Option.map_map, Function.comp_def]
                have ec := escaped_any h'
                generalize (escd (92 :: d :: r3)).1 = y at *
                generalize (escd (92 :: d :: r3)).2 = r2 at *
                clear e' hcq h10
                simp only [List.length_cons] at hl' hsl
                go_wp2_with fail
                refine (s0 _ g0).mono ?_
                rintro e w1 ⟨rfl, g1⟩
                go_wp2_with fail
                refine (s1 _ g1).mono ?_
                rintro e w2 ⟨rfl, g2⟩
                go_wp2_with fail
                refine (s1 _ g2).mono ?_
                rintro e w3 ⟨rfl, g3⟩
                go_wp2_with fail
                refine (ec _ g3).mono ?_
                rintro e w4 ⟨rfl, k4, g4⟩
                have hrow4 := hrow.far g4 (by omega)
                have hput := hrow4.put y (by omega) (Nat.le_trans hw' g4.size) (by omega) k4
                have t4 := t'.kept g4 (by simp; omega)
                go_wp2_with fail
                refine hput.mono ?_
                clear hput
                rintro e w5 ⟨v5, rfl, hrow5, k5, G5, S5, F5⟩
                have g5 := G5 w (by omega) (g'.trans g4)
                have hm5 := k5.lenOf
                clear G5
                go_wp2
                exact ⟨⟨t ++ [y], r2, hrow5, k5, HE, by simp; omega, g5, (by have := g4.size; omega), (F5 _ (by omega)).trans t4⟩, by rw [hm, hm5]; simp; omega⟩
          · have h92' : (c == 92) = false := by simpa using h92
            have HE : Hid ((S, L) = ((str q r').1.map ((t ++ [c]) ++ ·), (str q r').2)) := by
              show _ = _
              rw [e', str_cons, if_neg hcq, if_neg h10, if_neg h92]
              simp [Option.map_map, Function.comp_def]
            clear e' hcq h10 h92 s1
            go_wp2_with fail
            refine (s0 _ g0).mono ?_
            rintro e w1 ⟨rfl, g1⟩
            have hrow1 := hrow.far (grown_but g1 (some R)) (by omega)
            have hput := hrow1.put c (by omega) (Nat.le_trans hw' g1.size) (by omega) (h'.kept g1)
            have t4 := t'.kept g1 (by simp)
            go_wp2_with fail
            refine hput.mono ?_
            clear hput
            rintro e w2 ⟨v2, rfl, hrow2, k2, G2, S2, F2⟩
            have g2 := G2 w (by omega) (g'.trans (grown_but g1 _))
            obtain ⟨a, ca, fa, ha, hs⟩ := k2.step
            have t5 : Five w2 w.heap.size _ _ _ _ _ := (F2 _ (by omega)).trans t4
            clear G2
            go_wp2
            obtain ⟨k3, g3⟩ := hs _ rfl
            have hm3 := k3.lenOf
            exact ⟨⟨t ++ [c], r', hrow2.far g3 (by omega), k3, HE, by simp; omega, g2.trans g3, (by have := g1.size; have := g3.size; omega), t5.kept g3 (by simp; omega)⟩, by rw [hm, hm3]; simp⟩

end Go.Proofs.YtkhgmobependiaaDoor.Ref
