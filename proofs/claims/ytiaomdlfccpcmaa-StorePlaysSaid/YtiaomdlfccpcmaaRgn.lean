/- A law of the walk: a region that draws its order, taken in one order: loads first, where nobody who could come before them writes their cells. -/
import Derived.OrdersHeld
import Derived.RegionTactic
import Derived.Deep.RegionHeld
import Derived.Laws.OwnMore
import Derived.NoCompiler
import Derived.ArgAppend
import Derived.OwnWalk
namespace Go.Proofs.Ytiaomdlfccpcmaa.Rg
open Go

section
variable {P : Program} {ops : Array Oper} {Q : Exit → Act → World → Prop} {md : Region.Mode} {D : List Nat} {S : World → Prop}

/-- Whatever order is picked from here on; behind each operation of D that is carried out S holds. -/
def wpAnyD (P : Program) (md : Region.Mode) (ops : Array Oper) (Q : Exit → Act → World → Prop) (D : List Nat) (S : World → Prop) : Nat → Array Bool → Act → World → Prop
  | 0, listed, a, w => Region.ready md ops listed = [] ∧ Q .normal a w
  | fuel + 1, listed, a, w =>
    (Region.ready md ops listed = [] → Q .normal a w) ∧
    ∀ i ∈ Region.ready md ops listed, wpOp P ops Q i (fun a' w' => (i ∈ D → S w') ∧ wpAnyD P md ops Q D S fuel (listed.setIfInBounds i true) a' w') a w

theorem wpAny_of_D : ∀ (fuel : Nat) (listed : Array Bool) (a : Act) (w : World), wpAnyD P md ops Q D S fuel listed a w → wpAny P md ops Q fuel listed a w
  | 0, _, _, _, h => h
  | fuel + 1, _, _, _, h => ⟨h.1, fun i hi => wpOp_mono (fun a' w' h' => wpAny_of_D fuel _ a' w' h'.2) (h.2 i hi)⟩

/-- Those that could come ahead of number i: what may come up while i has not. -/
def aheadF (md : Region.Mode) (ops : Array Oper) (listed : Array Bool) (i : Nat) : Nat → List Nat → List Nat
  | 0, R => R
  | f + 1, R => aheadF md ops listed i f ((List.range ops.size).filter fun j => j != i && !listed.getD j true && ((ops[j]?).map (·.after.all fun e => !Region.binds md e || listed.getD e.on false || R.contains e.on)).getD false)
def ahead (md : Region.Mode) (ops : Array Oper) (listed : Array Bool) (i : Nat) : List Nat := aheadF md ops listed i ops.size []
/-- Whoever is not of R, not listed and not i waits for i, or for one who is not of R and not listed. -/
def closedR (md : Region.Mode) (ops : Array Oper) (listed : Array Bool) (i : Nat) (R : List Nat) : Bool :=
  !R.contains i && !listed.getD i true && (List.range ops.size).all fun j => j == i || R.contains j || listed.getD j true || match ops[j]? with
    | some oj => oj.after.any (fun e => Region.binds md e && !R.contains e.on && !listed.getD e.on false)
    | none => true
theorem closedR_spec {i : Nat} {listed : Array Bool} {R : List Nat} (h : closedR md ops listed i R = true) (l' : Array Bool) (hl : ∀ k, l'.getD k false = true → listed.getD k false = true ∨ k ∈ R) (hu : ∀ k, l'.getD k true = false → listed.getD k true = false)
    (j : Nat) (hj : j ∈ Region.ready md ops l') (hne : j ≠ i) : j ∈ R := by
  simp only [closedR, Bool.and_eq_true, List.all_eq_true, List.mem_range] at h
  obtain ⟨hjun, oj, hoj, hall⟩ := mem_ready.1 hj
  have hlt : j < ops.size := (Array.getElem?_eq_some_iff.1 hoj).1
  have h1 := h.2 j hlt
  simp only [hoj, hu j hjun, Bool.or_false, Bool.or_eq_true, beq_iff_eq, List.contains_iff_mem, Array.any_eq_true] at h1
  rcases h1 with (h1 | h1) | ⟨k, hk, h1⟩
  · exact absurd h1 hne
  · exact h1
  · simp only [Bool.and_eq_true, Bool.not_eq_true', List.contains_eq_mem, decide_eq_false_iff_not] at h1
    have h2 := hall _ (Array.getElem_mem hk) h1.1.1
    rcases hl _ h2 with h3 | h3
    · rw [h3] at h1
      exact absurd h1.2 (by simp)
    · exact absurd h3 h1.1.2
def apartR (ops : Array Oper) (i : Nat) (R : List Nat) : Bool := match ops[i]? with
  | none => false
  | some oi => R.all fun j => match ops[j]? with
    | some oj => oi.apart ops oj
    | none => true
theorem apartR_spec {i : Nat} {oi : Oper} {R : List Nat} (hi : ops[i]? = some oi) (h : apartR ops i R = true) (j : Nat) (oj : Oper) (hj : j ∈ R) (ho : ops[j]? = some oj) : oi.apart ops oj = true := by
  simp only [apartR, hi, List.all_eq_true] at h
  have := h j hj
  rwa [ho] at this

/-- An operation that may come up now may be taken first: T is what it leans on; whoever could come ahead of it (R) leaves T. -/
theorem wpD_first {T : World → Prop} {R : List Nat} {l₀ : Array Bool} {i : Nat} {oi : Oper} {v : Value} (hi : ops[i]? = some oi) (hsel : ∀ (j : Nat) (o : Oper) cs b, ops[j]? = some o → o.op ≠ .select cs b)
    (hQ : ∀ c a w, Q (.panic c) (a.put oi.dst v) w → Q (.panic c) a w) (hR : closedR md ops l₀ i R = true) (hap : apartR ops i R = true) (hT : ∀ j ∈ R, ∀ w', (j ∈ D → S w') → T w') (hD : ∀ w, T w → i ∈ D → S w) :
    ∀ (fuel : Nat) (listed : Array Bool) (a : Act) (w : World),
      (∀ k, listed.getD k false = true → l₀.getD k false = true ∨ k ∈ R) → (∀ k, listed.getD k true = false → l₀.getD k true = false) →
      i ∈ Region.ready md ops listed → YieldsIf P ops T oi v a → T w →
      wpAnyD P md ops Q D S fuel (listed.setIfInBounds i true) (a.put oi.dst v) w → wpAnyD P md ops Q D S (fuel + 1) listed a w := by
  intro fuel
  induction fuel with
  | zero =>
    intro listed a w _ _ hr hy hTw H
    refine ⟨fun h => (by rw [h] at hr; cases hr), fun j hj => ?_⟩
    by_cases hji : j = i
    · subst hji
      exact hy.wpOp hi hTw ⟨hD w hTw, H⟩
    · have h0 := ready_mono hj hji
      rw [H.1] at h0
      cases h0
  | succ fuel ih =>
    intro listed a w hl hu hr hy hTw H
    refine ⟨fun h => (by rw [h] at hr; cases hr), fun j hj => ?_⟩
    by_cases hji : j = i
    · subst hji
      exact hy.wpOp hi hTw ⟨hD w hTw, H⟩
    · have h1 := H.2 j (ready_mono hj hji)
      have hjR := closedR_spec hR listed hl hu j hj hji
      obtain ⟨hjun, oj, hoj, hall⟩ := mem_ready.1 hj
      have h2 := wpOp_putIf hoj (apartR_spec hi hap j oj hjR hoj) (fun cs b => hsel i oi cs b hi) (fun cs b => hsel j oj cs b hoj) hQ hy h1
      refine wpOp_mono (fun a' w' h3 => ⟨h3.2.1, ih (listed.setIfInBounds j true) a' w' (fun k hk => ?_) (fun k hk => ?_) (ready_mono hr (Ne.symm hji)) h3.1 (hT j hjR w' h3.2.1) ?_⟩) h2
      · by_cases hjk : j = k
        · subst hjk
          exact .inr hjR
        · rw [getD_set_ne false hjk] at hk
          exact hl k hk
      · by_cases hjk : j = k
        · subst hjk
          exact hu j hjun
        · rw [getD_set_ne true hjk] at hk
          exact hu k hk
      · rw [Array.setIfInBounds_comm _ _ hji]
        exact h3.2.2

/-! ### the moves of a walk -/
/-- The beginning. -/
theorem wpD_begin {id : Nat} {a : Act} {w : World} (D : List Nat) (S : World → Prop) (hm : P.follows .mixedOrders = true)
    (h : wpAnyD P .any ops Q D S ops.size (Array.replicate ops.size false) a w.drew) : (Code.region id ops true).wp P Q a w := wp_region_any hm (wpAny_of_D _ _ _ _ h)
/-- Number i, which yields in every world that meets S, is taken first: whoever could come ahead of it is of D. -/
theorem wpD_load (i : Nat) {oi : Oper} {v : Value} {fuel : Nat} {listed : Array Bool} {a : Act} {w : World} (hi : ops[i]? = some oi)
    (hs : Region.noSelect ops = true) (hc : (closedR md ops listed i (ahead md ops listed i) && apartR ops i (ahead md ops listed i) && (ahead md ops listed i).all (fun j => D.contains j) && (Region.ready md ops listed).contains i) = true)
    (hQ : ∀ c a w, Q (.panic c) (a.put oi.dst v) w → Q (.panic c) a w) (hS : S w) (hw : Region.wanted oi (yielded ops a.tmps) = true) (hy : ∀ w, S w → (execOp a.eval oi).run P w = .ok (.value v) w)
    (h : wpAnyD P md ops Q D S fuel (listed.setIfInBounds i true) (a.put oi.dst v) w) : wpAnyD P md ops Q D S (fuel + 1) listed a w := by
  simp only [Bool.and_eq_true] at hc
  obtain ⟨⟨⟨h1, h2⟩, h3⟩, h4⟩ := hc
  exact wpD_first (T := S) hi (Region.noSelect_spec hs) hQ h1 h2 (fun j hj w' hw' => hw' (by simpa using List.all_eq_true.1 h3 j hj)) (fun _ h _ => h) fuel listed a w (fun k hk => .inl hk) (fun k hk => hk) (by simpa using h4) (.inl ⟨hw, hy⟩) hS h
/-- Number i, which yields in whatever world, is taken first. -/
theorem wpD_pure (i : Nat) {oi : Oper} {v : Value} {fuel : Nat} {listed : Array Bool} {a : Act} {w : World} (hi : ops[i]? = some oi)
    (hs : Region.noSelect ops = true) (hc : (closedR md ops listed i (ahead md ops listed i) && apartR ops i (ahead md ops listed i) && !D.contains i && (Region.ready md ops listed).contains i) = true)
    (hQ : ∀ c a w, Q (.panic c) (a.put oi.dst v) w → Q (.panic c) a w) (hw : Region.wanted oi (yielded ops a.tmps) = true) (hy : ∀ w, (execOp a.eval oi).run P w = .ok (.value v) w)
    (h : wpAnyD P md ops Q D S fuel (listed.setIfInBounds i true) (a.put oi.dst v) w) : wpAnyD P md ops Q D S (fuel + 1) listed a w := by
  simp only [Bool.and_eq_true] at hc
  obtain ⟨⟨⟨h1, h2⟩, h3⟩, h4⟩ := hc
  exact wpD_first (T := fun _ => True) hi (Region.noSelect_spec hs) hQ h1 h2 (fun _ _ _ _ => trivial) (fun _ _ hd => absurd hd (by simpa using h3)) fuel listed a w (fun k hk => .inl hk) (fun k hk => hk) (by simpa using h4) (.inl ⟨hw, fun w _ => hy w⟩) trivial h
/-- Number i, whose guard says no, is taken first. -/
theorem wpD_skip (i : Nat) {oi : Oper} {fuel : Nat} {listed : Array Bool} {a : Act} {w : World} (hi : ops[i]? = some oi)
    (hs : Region.noSelect ops = true) (hc : (closedR md ops listed i (ahead md ops listed i) && apartR ops i (ahead md ops listed i) && (ahead md ops listed i).all (fun j => D.contains j) && (Region.ready md ops listed).contains i) = true)
    (hQ : ∀ c a w, Q (.panic c) (a.put oi.dst undef) w → Q (.panic c) a w) (hS : S w) (hw : Region.wanted oi (yielded ops a.tmps) = false)
    (h : wpAnyD P md ops Q D S fuel (listed.setIfInBounds i true) (a.put oi.dst undef) w) : wpAnyD P md ops Q D S (fuel + 1) listed a w := by
  simp only [Bool.and_eq_true] at hc
  obtain ⟨⟨⟨h1, h2⟩, h3⟩, h4⟩ := hc
  exact wpD_first (T := S) hi (Region.noSelect_spec hs) hQ h1 h2 (fun j hj w' hw' => hw' (by simpa using List.all_eq_true.1 h3 j hj)) (fun _ h _ => h) fuel listed a w (fun k hk => .inl hk) (fun k hk => hk) (by simpa using h4) (.inr ⟨hw, rfl⟩) hS h
/-- Number i alone may come up: it is carried out. -/
theorem wpD_do (i : Nat) {o : Oper} {fuel : Nat} {listed : Array Bool} {a : Act} {w : World} (hr : Region.ready md ops listed = [i]) (ho : ops[i]? = some o)
    (h : ∀ K' : Act → World → Prop, (∀ a w, (i ∈ D → S w) → wpAnyD P md ops Q D S fuel (listed.setIfInBounds i true) a w → K' a w) → if Region.wanted o (yielded ops a.tmps) = true then Oper.wp P o a w K' Q else K' (a.put o.dst undef) w) :
    wpAnyD P md ops Q D S (fuel + 1) listed a w :=
  ⟨fun h0 => (by rw [hr] at h0; cases h0), fun j hj => by
    rw [hr] at hj
    obtain rfl := List.mem_singleton.1 hj
    exact wpOp_step ho (fun K' hK => h K' (fun a w h1 h2 => hK a w ⟨h1, h2⟩))⟩
/-- One of two may come up. -/
theorem wpD_two (i j : Nat) {o p : Oper} {fuel : Nat} {listed : Array Bool} {a : Act} {w : World} (hr : Region.ready md ops listed = [i, j]) (ho : ops[i]? = some o) (hp : ops[j]? = some p)
    (h : ∀ K' : Act → World → Prop, (∀ a w, (i ∈ D → S w) → wpAnyD P md ops Q D S fuel (listed.setIfInBounds i true) a w → K' a w) → if Region.wanted o (yielded ops a.tmps) = true then Oper.wp P o a w K' Q else K' (a.put o.dst undef) w)
    (h' : ∀ K' : Act → World → Prop, (∀ a w, (j ∈ D → S w) → wpAnyD P md ops Q D S fuel (listed.setIfInBounds j true) a w → K' a w) → if Region.wanted p (yielded ops a.tmps) = true then Oper.wp P p a w K' Q else K' (a.put p.dst undef) w) :
    wpAnyD P md ops Q D S (fuel + 1) listed a w :=
  ⟨fun h0 => (by rw [hr] at h0; cases h0), fun k hk => by
    rw [hr] at hk
    rcases List.mem_cons.1 hk with rfl | hk
    · exact wpOp_step ho (fun K' hK => h K' (fun a w h1 h2 => hK a w ⟨h1, h2⟩))
    · obtain rfl := List.mem_singleton.1 hk
      exact wpOp_step hp (fun K' hK => h' K' (fun a w h1 h2 => hK a w ⟨h1, h2⟩))⟩
/-- All have come up. -/
theorem wpD_done {listed : Array Bool} {a : Act} {w : World} {fuel : Nat} (hr : Region.ready md ops listed = []) (h : Q .normal a w) : wpAnyD P md ops Q D S fuel listed a w := by
  cases fuel with
  | zero => exact ⟨hr, h⟩
  | succ n => exact ⟨fun _ => h, fun i hi => by rw [hr] at hi; cases hi⟩

/-- append where there is room, to a row that the call owns, as one step of a region that draws. -/
theorem step_append_fits {o : Oper} {a : Act} {w : World} {K : Act → World → Prop} {E : Prop} (hgd : o.guard = none) (s x : Operand) (t : TypeId)
    (ho : o.op = .call { callee := .builtin .append, args := #[s, x], argTypes := #[t, t] })
    (base : Nat) (e : TypeId) (i : TypeInfo) (size : Nat) (ht : P.underlying t = some (.slice e)) (hi : P.info? e = some i) (hsize : i.size = size)
    (g n cap : Nat) (xs : List Value) (hs : a.eval s = .slice (some ⟨g, 0, none⟩) n cap) (hown : w.ownsRow base e size (.slice (some ⟨g, 0, none⟩) n cap) n xs)
    (ad : Addr) (m c : Nat) (news : List Value) (hx : a.eval x = .slice (some ad) m c) (hl : news.length = m * size) (hnews : ∀ j u, news[j]? = some u → w.cell? (ad.add j) = some u) (h1 : ∀ u ∈ news, u.oneCell' = true) (hroom : n + m ≤ cap)
    (h : ∀ w', w'.ownsRow base e size (.slice (some ⟨g, 0, none⟩) (n + m) cap) (n + m) (xs ++ news) → w.grownBy w' (some g) → K (a.put o.dst (.slice (some ⟨g, 0, none⟩) (n + m) cap)) w') :
    if Region.wanted o (yielded ops a.tmps) = true then Oper.wp P o a w K Q else E := by
  have hw : Region.wanted o (yielded ops a.tmps) = true := by simp [Region.wanted, hgd]
  rw [if_pos hw]
  obtain ⟨w', hrun, h2, h3⟩ := run_append_fits (P := P) w base t o.type e i size ht hi hsize g n cap xs hown ad m c news hl hnews h1 hroom
  unfold Oper.wp
  simp [execOp, ho, resolve, invoke, builtin, hs, hx, hrun, Result.andThen]
  exact h w' h2 h3

end
/-- append(dst, src...) onto a row that the call owns, from whatever slice, nil too. -/
theorem wpList_append_src {P : Program} (w : World) {ops : Array Oper} {rest : List Oper} {o : Oper} {a : Act} {Q : Exit → Act → World → Prop}
    (hg : o.guard = none) (s x : Operand) (t : TypeId) (hop : o.op = Op.call { callee := Callee.builtin Builtin.append, args := #[s, x], argTypes := #[t, t] })
    (base : Nat) (e : TypeId) (i : TypeInfo) (z : Value) (size bytes : Nat) (h1 : P.underlying t = some (.slice e)) (h2 : P.info? e = some i) (h3 : i.zero = some z) (h4 : i.size = size) (h5 : i.bytes = bytes) (h6 : z.cells.size = size) (h7 : 0 < size)
    (v : Value) (k : Nat) (xs : List Value) (hs : a.eval s = v) (hown : w.ownsRow base e size v k xs) (xv : Value) (m : Nat) (news : List Value) (hx : a.eval x = xv) (hn : news.length = m * size)
    (hsrc : (xv = .slice none 0 0 ∧ m = 0) ∨ ∃ ad c, xv = .slice (some ad) m c ∧ ∀ j u, news[j]? = some u → w.cell? (ad.add j) = some u)
    (h1c : ∀ u ∈ news, u.oneCell' = true) (b1 : k + m ≤ maxLen) (b2 : (k + m) * bytes ≤ 140737488355328) (b3 : base ≤ w.heap.size)
    (hK : ∀ v' w', w'.ownsRow base e size v' (k + m) (xs ++ news) → w.grownBy w' v.ownBlock → wpList P ops Q rest (a.put o.dst v') w') :
    wpList P ops Q (o :: rest) a w := by
  rcases hsrc with ⟨rfl, rfl⟩ | ⟨ad, c, rfl, hc⟩
  · have hnews : news = [] := List.eq_nil_of_length_eq_zero (by simpa using hn)
    subst hnews
    refine wpList_plain hg fun K hK' => ?_
    have hrun := run_append_owned_none (P := P) w base t o.type e i size h1 h2 _ k xs hown
    unfold Oper.wp
    simp [execOp, hop, resolve, invoke, builtin, hs, hx, hrun, Result.andThen]
    exact hK' _ _ (by simpa using hK v w (by simpa using hown) (World.grownBy.refl _ _))
  · exact wpList_append_own w hg s x t hop base e i z size bytes h1 h2 h3 h4 h5 h6 h7 v k xs hs hown ad m c news hx hn hc h1c b1 b2 b3 (fun v' w' a1 a2 _ => hK v' w' a1 a2)

end Go.Proofs.Ytiaomdlfccpcmaa.Rg
