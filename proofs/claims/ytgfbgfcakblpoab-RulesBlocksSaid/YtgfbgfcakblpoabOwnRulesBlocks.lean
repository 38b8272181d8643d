/- For every two slices of tokens: the law tapestrierlaw5.RulesBlocks returns true and leaves its arguments as they were; no condition. -/
import Derived.Test.YtgfbgfcakblpoabRsAlive
import Derived.Test.YtgfbgfcakblpoabRsSame
import Derived.Test.YtgfbgfcakblpoabRsArgs
namespace Go.Proofs.Ytgfbgfcakblpoab
open Go Go.ChangeShapes Go.WideShapes Go.ChangeAt Go.RowKit

/-! ### plain -/
def flat (k : Int) : Prop := k ≠ 14 ∧ k ≠ 16 ∧ k ≠ 18 ∧ k ≠ 20
theorem flat_clos {k : Int} (h : flat k) : clos k = 0 := by
  rcases clos_cases k with ⟨e, _⟩ | ⟨e | e, _⟩ | ⟨e, _⟩ | ⟨_, _, _, _, e⟩
  · exact absurd e h.1
  · exact absurd e h.2.1
  · exact absurd e h.2.2.2
  · exact absurd e h.2.2.1
  · exact e
theorem upto_flat (p : Int → Bool) : ∀ (ks r : List Int), (∀ k ∈ ks, clos k = 0 ∧ p k = false) → upto p (ks ++ r) = ks.length + upto p r
  | [], r, _ => by simp
  | k :: ks, r, h => by
    have hk := h k List.mem_cons_self
    have e : run [] (k :: (ks ++ r)) = 1 := run_cons_nil _ (opn_nil hk.1)
    rw [List.cons_append, upto_cons, if_neg (by simp [hk.2]), e, List.drop_succ_cons, List.drop_zero, upto_flat p ks r (fun j hj => h j (List.mem_cons_of_mem _ hj)), List.length_cons]
    omega
theorem rules_oneL {l : List Bt} (hh : ∀ t, l.head? = some t → t.kind ≠ 9 ∧ t.kind ≠ 2) (hl : l ≠ []) (h : upto is14 (kds l) ≠ l.length) :
    rules l = (l.take (upto is14 (kds l)), (l.drop (upto is14 (kds l) + 1)).take (upto is15' (kds (l.drop (upto is14 (kds l) + 1))))) :: rules (l.drop (upto is14 (kds l) + 1 + (upto is15' (kds (l.drop (upto is14 (kds l) + 1))) + 1))) := by
  cases l with
  | nil => exact absurd rfl hl
  | cons t r => exact rules_one (hh t rfl).1 (hh t rfl).2 h
theorem blocks_flat {a : List Bt} (ha : ∀ t ∈ a, flat t.kind) : ∀ k ∈ kds a, clos k = 0 ∧ is14 k = false := fun k hk => by
  obtain ⟨t, ht, rfl⟩ := List.mem_map.1 hk
  exact ⟨flat_clos (ha t ht), by simp [is14, (ha t ht).1]⟩
theorem blocks_one (a b e : List Bt) (o : Bt) (ho : o.kind = 14) (he : e = [] ∨ ∃ c : Bt, c.kind = 15 ∧ e = [c]) (ha : ∀ t ∈ a, flat t.kind) (hh : ∀ t, a.head? = some t → t.kind ≠ 9 ∧ t.kind ≠ 2) (hb : ∀ t ∈ b, flat t.kind ∧ t.kind ≠ 15) : rules (a ++ o :: (b ++ e)) = [(a, b)] := by
  have hu : upto is14 (kds (a ++ o :: (b ++ e))) = a.length := by
    rw [kds_append, upto_flat is14 (kds a) _ (blocks_flat ha), kds_length, kds_cons, upto_cons, ho, if_pos (by decide), Nat.add_zero]
  have hd : (a ++ o :: (b ++ e)).drop (a.length + 1) = b ++ e := by
    rw [show a ++ o :: (b ++ e) = (a ++ [o]) ++ (b ++ e) by simp, List.drop_left' (by simp)]
  have hv : upto is15' (kds (b ++ e)) = b.length := by
    rw [kds_append, upto_flat is15' (kds b) _ (fun k hk => by
      obtain ⟨t, ht, rfl⟩ := List.mem_map.1 hk
      exact ⟨flat_clos (hb t ht).1, by simp [is15', (hb t ht).2]⟩), kds_length]
    rcases he with rfl | ⟨c, hc, rfl⟩
    · rfl
    · rw [kds_cons, hc, upto_cons, if_pos (by decide), Nat.add_zero]
  have hz : (a ++ o :: (b ++ e)).drop (a.length + 1 + (b.length + 1)) = [] := List.drop_eq_nil_iff.2 (by rcases he with rfl | ⟨c, _, rfl⟩ <;> simp <;> omega)
  rw [rules_oneL (fun t ht => by
    cases a with
    | nil =>
      obtain rfl : o = t := by simpa using ht
      rw [ho]
      decide
    | cons x y => exact hh t (by simpa using ht)) (by simp) (by rw [hu]; simp), hu, hd, hv, hz, List.take_left' rfl, List.take_left' rfl, rules_nil]
theorem blocks_none {a : List Bt} (ha : ∀ t ∈ a, flat t.kind) (hh : ∀ t, a.head? = some t → t.kind ≠ 9 ∧ t.kind ≠ 2) : rules a = [] := by
  have hu := upto_flat is14 (kds a) [] (blocks_flat ha)
  rw [List.append_nil, kds_length, upto_nil, Nat.add_zero] at hu
  cases a with
  | nil => rfl
  | cons x y => exact rules_none (hh x rfl).1 (hh x rfl).2 hu
theorem take_next {a : List Bt} {k : Nat} (h : k < a.length) {p : Bt → Prop} (h1 : ∀ t ∈ a.take k, p t) (h2 : p a[k]) : ∀ t ∈ a.take (k + 1), p t := fun t ht => by
  rw [List.take_succ_eq_append_getElem h] at ht
  rcases List.mem_append.1 ht with ht | ht
  · exact h1 t ht
  · obtain rfl : t = a[k] := by simpa using ht
    exact h2

set_option maxRecDepth 100000 in
set_option maxHeartbeats 1000000 in
theorem rulesBlocks_walk (w : World) (va : Value) (a : List Bt) (ha : BtsAt w.heap.size w va a) (vb : Value) (b : List Bt) (hb : BtsAt w.heap.size w vb b) :
    Calls Try.prog 3 #[va, vb] w fun e w' => e = .returned (.bool true) ∧ Below w.heap.size w w' := by
  have h0 := alive5_any w
  obtain ⟨i0, hi, hz0, hz1, hz2⟩ := info_parts infoTk5
  obtain ⟨pa, ca, rfl⟩ := ha.len
  obtain ⟨pb, cb, rfl⟩ := hb.len
  go_enter Try.func3, Try.ntmps3
  go_wp2_with fail
  refine h0.mono ?_
  clear h0
  rintro e w1 ⟨rfl, b1⟩
  have ha1 := ha.next b1
  have hb1 := hb.next b1
  have hbig := big_any _ a w1 ha1
  have hbig2 := big_any _ b w1 hb1
  go_wp2_with fail
  refine hbig.mono ?_
  clear hbig
  rintro e w2 (⟨rfl, rfl⟩ | ⟨rfl, hla, rfl⟩)
  · go_wp2
    go_ret
    exact ⟨rfl, b1⟩
  go_wp2_with fail
  refine hbig2.mono ?_
  clear hbig2
  rintro e w3 (⟨rfl, rfl⟩ | ⟨rfl, hlb, rfl⟩)
  · go_wp2
    go_ret
    exact ⟨rfl, b1⟩
  go_wp2
  go_loopw [7] (fun x wr => ∃ k : Nat, x = .int .i64 k ∧ k ≤ a.length ∧ Hid (∀ t ∈ a.take k, flat t.kind) ∧ Hid (0 < k → ∀ t, a.head? = some t → t.kind ≠ 9 ∧ t.kind ≠ 2) ∧ w3 = wr) (fun x _ => a.length - (intOf x).toNat)
  case atStart => exact ⟨0, rfl, Nat.zero_le _, by show ∀ _, _; simp, by show _ → _; simp, rfl⟩
  case round =>
    obtain ⟨k, rfl, hk, HF, HH, rfl⟩ := hrel
    by_cases hlt : k < a.length
    · have hki : (k : Int) < (a.length : Int) := by omega
      obtain ⟨bk, off, rfl, _, _, _, hc, _⟩ := ha1.get (List.getElem?_eq_getElem hlt)
      have HN : flat a[k].kind → Hid (∀ t ∈ a.take (k + 1), flat t.kind) := fun h => take_next hlt HF h
      have HG : (0 < k ∨ (a[k].kind ≠ 9 ∧ a[k].kind ≠ 2)) → Hid (0 < k + 1 → ∀ t, a.head? = some t → t.kind ≠ 9 ∧ t.kind ≠ 2) := fun h _ t ht => by
        rcases Nat.eq_zero_or_pos k with e | e
        · subst e
          rw [List.head?_eq_getElem?, List.getElem?_eq_getElem hlt] at ht
          obtain rfl : a[0] = t := by simpa using ht
          exact h.resolve_left (by omega)
        · exact (show _ → _ from HH) e t ht
      clear HF HH ha ha1 hb hb1
      generalize a[k].kind = x at *
      by_cases h1 : x = 14
      · subst h1; clear HN HG; go_wp2; go_ret; exact ⟨rfl, b1⟩
      by_cases h2 : x = 16
      · subst h2; clear HN HG; go_wp2; go_ret; exact ⟨rfl, b1⟩
      by_cases h3 : x = 18
      · subst h3; clear HN HG; go_wp2; go_ret; exact ⟨rfl, b1⟩
      by_cases h4 : x = 20
      · subst h4; clear HN HG; go_wp2; go_ret; exact ⟨rfl, b1⟩
      have HN' := HN ⟨h1, h2, h3, h4⟩
      clear HN
      have e1 : (x == 14) = false := by simpa using h1
      have e2 : (x == 16) = false := by simpa using h2
      have e3 : (x == 18) = false := by simpa using h3
      have e4 : (x == 20) = false := by simpa using h4
      by_cases hk0 : k = 0
      · subst hk0
        rw [Nat.zero_mul, Nat.add_zero] at hc
        by_cases h5 : x = 2
        · subst h5; clear HG; go_wp2; go_ret; exact ⟨rfl, b1⟩
        by_cases h6 : x = 9
        · subst h6; clear HG; go_wp2; go_ret; exact ⟨rfl, b1⟩
        have e5 : (x == 2) = false := by simpa using h5
        have e6 : (x == 9) = false := by simpa using h6
        have HG' := HG (.inr ⟨h6, h5⟩)
        clear HG
        go_wp2
        exact ⟨⟨0 + 1, by go_num, by omega, HN', HG', by first | rfl | trivial⟩, by simp [intOf]; omega⟩
      · have HG' := HG (.inl (by omega))
        clear HG
        have e0 : ((k : Int) == 0) = false := by simp; omega
        have e0' : ¬ ((k : Int) = 0) := by omega
        by_cases h5 : x = 2
        · subst h5
          go_wp2
          exact ⟨⟨k + 1, by go_num, by omega, HN', HG', by first | rfl | trivial⟩, by simp [intOf]; omega⟩
        · have e5 : (x == 2) = false := by simpa using h5
          by_cases h6 : x = 9
          · subst h6
            go_wp2
            exact ⟨⟨k + 1, by go_num, by omega, HN', HG', by first | rfl | trivial⟩, by simp [intOf]; omega⟩
          · have e6 : (x == 9) = false := by simpa using h6
            go_wp2
            exact ⟨⟨k + 1, by go_num, by omega, HN', HG', by first | rfl | trivial⟩, by simp [intOf]; omega⟩
    · have hki : ¬ (k : Int) < (a.length : Int) := by omega
      have FA : Hid (∀ t ∈ a, flat t.kind) := by
        show ∀ _, _
        have := HF
        rw [List.take_of_length_le (by omega)] at this
        exact this
      have FH : Hid (∀ t, a.head? = some t → t.kind ≠ 9 ∧ t.kind ≠ 2) := fun t ht => by
        refine (show _ → _ from HH) ?_ t ht
        cases a with
        | nil => simp at ht
        | cons x y => simp at hki ⊢; omega
      clear HF HH
      go_wp2
      go_loopw [9] (fun x wr => ∃ k : Nat, x = .int .i64 k ∧ k ≤ b.length ∧ Hid (∀ t ∈ b.take k, flat t.kind ∧ t.kind ≠ 15) ∧ w3 = wr) (fun x _ => b.length - (intOf x).toNat)
      case atStart => exact ⟨0, rfl, Nat.zero_le _, by show ∀ _, _; simp, rfl⟩
      case round =>
        obtain ⟨k, rfl, hk, HF, rfl⟩ := hrel
        by_cases hlt : k < b.length
        · have hki : (k : Int) < (b.length : Int) := by omega
          obtain ⟨bk, off, rfl, _, _, _, hc, _⟩ := hb1.get (List.getElem?_eq_getElem hlt)
          have HN : (flat b[k].kind ∧ b[k].kind ≠ 15) → Hid (∀ t ∈ b.take (k + 1), flat t.kind ∧ t.kind ≠ 15) := fun h => take_next (p := fun t => flat t.kind ∧ t.kind ≠ 15) hlt HF h
          clear HF ha ha1 hb hb1
          generalize b[k].kind = x at *
          by_cases h1 : x = 14
          · subst h1; clear HN; go_wp2; go_ret; exact ⟨rfl, b1⟩
          by_cases h2 : x = 16
          · subst h2; clear HN; go_wp2; go_ret; exact ⟨rfl, b1⟩
          by_cases h3 : x = 18
          · subst h3; clear HN; go_wp2; go_ret; exact ⟨rfl, b1⟩
          by_cases h4 : x = 20
          · subst h4; clear HN; go_wp2; go_ret; exact ⟨rfl, b1⟩
          by_cases h5 : x = 15
          · subst h5; clear HN; go_wp2; go_ret; exact ⟨rfl, b1⟩
          have HN' := HN ⟨⟨h1, h2, h3, h4⟩, h5⟩
          clear HN
          have e1 : (x == 14) = false := by simpa using h1
          have e2 : (x == 16) = false := by simpa using h2
          have e3 : (x == 18) = false := by simpa using h3
          have e4 : (x == 20) = false := by simpa using h4
          have e5 : (x == 15) = false := by simpa using h5
          go_wp2
          exact ⟨⟨k + 1, by go_num, by omega, HN', by first | rfl | trivial⟩, by simp [intOf]; omega⟩
        · have hki : ¬ (k : Int) < (b.length : Int) := by omega
          have FB : Hid (∀ t ∈ b, flat t.kind ∧ t.kind ≠ 15) := by
            show ∀ _, _
            have := HF
            rw [List.take_of_length_le (by omega)] at this
            exact this
          clear HF
          have hsa := ha1.src
          go_wp2_with (first
            | (at_builtin; refine wpList_append_src _ rfl _ _ 22 rfl w3.heap.size 26 i0 (.agg #[.int .i64 0, .string ⟨#[]⟩, .int .i64 0, .bool false, .int .i64 0]) 5 48 Try.underlying22 hi hz0 hz1 hz2 rfl (by decide) _ 0 [] rfl (World.ownsRow_nil _ _ _ _) _ a.length (btsCells a) rfl (btsCells_length _) hsa (btsCells_one _) (by unfold maxLen; omega) (by omega) (Nat.le_refl _) ?_; intro v1 X1 own1 grow1; rw [Nat.zero_add, List.nil_append] at own1; have B1 : Below w3.heap.size w3 X1 := (Below.refl _ w3).grown grow1 (Nat.le_refl _) (fun r e => by cases e); have s1 := B1.size)
            | (at_builtin; refine wpList_append_own _ rfl _ _ 22 rfl w3.heap.size 26 i0 (.agg #[.int .i64 0, .string ⟨#[]⟩, .int .i64 0, .bool false, .int .i64 0]) 5 48 Try.underlying22 hi hz0 hz1 hz2 rfl (by decide) _ _ _ rfl (World.ownsRow.alloc own1 _) ⟨X1.heap.size, 0, none⟩ 1 1 (btCells ⟨14, ⟨#[]⟩, 0, false, 0⟩) rfl rfl (cells_new _ (btCells ⟨14, ⟨#[]⟩, 0, false, 0⟩) _) (Ref.btCells_one _) (by unfold maxLen; omega) (by omega) (by simp; omega) ?_; intro v2 X2 own2 grow2 nil2; have B2 : Below w3.heap.size w3 X2 := (B1.alloc s1 _).grown grow2 (by rw [World.size_alloc]; omega) (fun j e => (World.ownsRow.lt own1 j e).1); have hsb := (hb1.next B2).src)
            | (at_builtin; refine wpList_append_src _ rfl _ _ 22 rfl w3.heap.size 26 i0 (.agg #[.int .i64 0, .string ⟨#[]⟩, .int .i64 0, .bool false, .int .i64 0]) 5 48 Try.underlying22 hi hz0 hz1 hz2 rfl (by decide) _ _ _ rfl own2 _ b.length (btsCells b) rfl (btsCells_length _) hsb (btsCells_one _) (by unfold maxLen; omega) (by omega) B2.size ?_; intro v3 X3 own3 grow3))
          have B3 : Below w3.heap.size w3 X3 := B2.grown grow3 B2.size (fun j e => (World.ownsRow.lt own2 j e).1)
          have T3 : BtsAt X3.heap.size X3 v3 (a ++ (⟨14, ⟨#[]⟩, 0, false, 0⟩ : Bt) :: (b ++ [])) := BtsAt.of_owns (m := a.length + 1 + b.length) (by
            rw [show btsCells (a ++ (⟨14, ⟨#[]⟩, 0, false, 0⟩ : Bt) :: (b ++ [])) = btsCells a ++ btCells (⟨14, ⟨#[]⟩, 0, false, 0⟩ : Bt) ++ btsCells b by simp [btsCells]]
            exact own3) (by simp; omega)
          have P3 := parse_any v3 _ X3 T3 (by simp; omega)
          rw [blocks_one a b [] (⟨14, ⟨#[]⟩, 0, false, 0⟩ : Bt) rfl (.inl rfl) FA FH FB] at P3
          clear own1 own2 own3 grow1 grow2 nil2 grow3 hsb hsa
          have hlT : (a ++ (⟨14, ⟨#[]⟩, 0, false, 0⟩ : Bt) :: (b ++ [])).length ≤ 1001 := by simp; omega
          have hc4 : ∀ x, btsCells (a ++ (⟨14, ⟨#[]⟩, 0, false, 0⟩ : Bt) :: (b ++ [x])) = btsCells (a ++ (⟨14, ⟨#[]⟩, 0, false, 0⟩ : Bt) :: (b ++ [])) ++ btCells x := fun x => by simp [btsCells]
          have hl4 : ∀ x, (a ++ (⟨14, ⟨#[]⟩, 0, false, 0⟩ : Bt) :: (b ++ [x])).length = (a ++ (⟨14, ⟨#[]⟩, 0, false, 0⟩ : Bt) :: (b ++ [])).length + 1 := fun x => by simp; omega
          have P6 := fun v X (h : BtsAt X.heap.size X v (a ++ (⟨14, ⟨#[]⟩, 0, false, 0⟩ : Bt) :: (b ++ [(⟨15, ⟨#[]⟩, 0, false, 0⟩ : Bt)]))) => parse_any v _ X h (by rw [hl4]; omega)
          rw [blocks_one a b [(⟨15, ⟨#[]⟩, 0, false, 0⟩ : Bt)] (⟨14, ⟨#[]⟩, 0, false, 0⟩ : Bt) rfl (.inr ⟨_, rfl, rfl⟩) FA FH FB] at P6
          generalize a ++ (⟨14, ⟨#[]⟩, 0, false, 0⟩ : Bt) :: (b ++ []) = T at *
          refine P3.mono ?_
          clear P3
          rintro e X4 ⟨v4, rfl, ⟨vs4, R4⟩, B34⟩
          have B4 := below_next B3 B34
          have hst := (T3.next B34).src
          go_wp2_with (first
            | (at_builtin; refine wpList_append_src _ rfl _ _ 22 rfl X4.heap.size 26 i0 (.agg #[.int .i64 0, .string ⟨#[]⟩, .int .i64 0, .bool false, .int .i64 0]) 5 48 Try.underlying22 hi hz0 hz1 hz2 rfl (by decide) _ 0 [] rfl (World.ownsRow_nil _ _ _ _) _ T.length (btsCells T) rfl (btsCells_length _) hst (btsCells_one _) (by unfold maxLen; omega) (by omega) (Nat.le_refl _) ?_; intro v5 X5 own5 grow5; rw [Nat.zero_add, List.nil_append] at own5; have B5 : Below X4.heap.size X4 X5 := (Below.refl _ X4).grown grow5 (Nat.le_refl _) (fun r e => by cases e); have s5 := B5.size)
            | (at_builtin; refine wpList_append_own _ rfl _ _ 22 rfl X4.heap.size 26 i0 (.agg #[.int .i64 0, .string ⟨#[]⟩, .int .i64 0, .bool false, .int .i64 0]) 5 48 Try.underlying22 hi hz0 hz1 hz2 rfl (by decide) _ _ _ rfl (World.ownsRow.alloc own5 _) ⟨X5.heap.size, 0, none⟩ 1 1 (btCells ⟨15, ⟨#[]⟩, 0, false, 0⟩) rfl rfl (cells_new _ (btCells ⟨15, ⟨#[]⟩, 0, false, 0⟩) _) (Ref.btCells_one _) (by unfold maxLen; omega) (by omega) (by simp; omega) ?_; intro v6 X6 own6 grow6 nil6))
          have B6 : Below X4.heap.size X4 X6 := (B5.alloc s5 _).grown grow6 (by rw [World.size_alloc]; omega) (fun j e => (World.ownsRow.lt own5 j e).1)
          have T6 := P6 v6 X6 (BtsAt.of_owns (m := T.length + 1) (by rw [hc4]; exact own6) (by rw [hl4]))
          clear own5 own6 grow5 grow6 nil6 hst P6 hc4 hl4
          refine T6.mono ?_
          clear T6
          rintro e X7 ⟨v7, rfl, ⟨vs7, R7⟩, B67⟩
          have B47 := below_next B6 B67
          have B7 := below_next B4 B47
          have P7 := parse_any _ a X7 (ha1.next B7) (by omega)
          rw [blocks_none FA FH] at P7
          go_wp2_with fail
          refine P7.mono ?_
          clear P7
          rintro e X8 ⟨v8, rfl, ⟨vs8, R8⟩, B78⟩
          have B8 := below_next B7 B78
          have ha8 := ha1.next B8
          have hb8 := hb1.next B8
          have R4' := R4.kept (grown_of_below' (below_next B47 B78) none)
          have R7' := R7.kept (grown_of_below' B78 none)
          obtain ⟨p8, c8, rfl⟩ := R8.form
          obtain ⟨p7, c7, rfl⟩ := R7'.form
          obtain ⟨bk, off, q1, c1, q2, c2, rfl, a1, a2, t1, t2⟩ := R7'.get (k := 0) (r := (a, b)) rfl
          simp only [Nat.zero_mul, Nat.add_zero] at a1 a2
          have BB := below_next b1 B8
          clear R4 R7 R8 B1 B2 B3 B34 B4 B5 B6 B67 B47 B7 B78 B8 T3 ha ha1 hb hb1 FA FH FB
          go_wp2_with fail
          refine (sameBts_yes _ _ a X8 t1 ha8).mono ?_
          rintro e w9 ⟨rfl, n9, rfl⟩
          go_wp2_with fail
          refine (sameBts_yes _ _ b (X8.drewN n9) (bts_heap t2 rfl) (bts_heap hb8 rfl)).mono ?_
          rintro e w10 ⟨rfl, n10, rfl⟩
          have gq : ∀ n, X8.grownBy (X8.drewN n) none := fun n => ⟨rfl, rfl, rfl, Nat.le_refl _, fun _ _ _ => rfl⟩
          have h5 := fun n => sameRaws_yes _ _ [(a, b)] vs4 vs7 _ _ (X8.drewN n) (R4'.kept (gq n)) (R7'.kept (gq n))
          clear R4' R7' t1 t2 ha8 hb8 gq
          rw [World.drewN_drewN]
          go_wp2_with fail
          refine (h5 _).mono ?_
          clear h5
          rintro e w11 ⟨rfl, n11, rfl⟩
          go_wp2
          go_ret
          exact ⟨rfl, below_next BB (below_drewN _ _)⟩


set_option maxRecDepth 100000 in
theorem rulesBlocks_lifted (os : Os) (started : os.Started) (H : Type) (enc : TypeId × Value → H) :
    ReturnsInHanded {} Try.checked os 3 .any (Rows.rulesBlocksSpec.pre6 enc Try.prog Try.f3 Rows.rulesBlocksRow.domain false) (Rows.rulesBlocksSpec.post enc Try.prog Try.f3 false true false false) := by
  refine returnsInHanded_of_change_sized (C := Try.checked) ownNone started (by kernel_rfl) Try.func3
    (ChangeSpec.witness6 (enc := enc) (C := Try.checked) false ⟨#[], #[.slice none 0 0, .slice none 0 0], []⟩ 8 (by kernel_rfl) (by kernel_rfl) (by kernel_rfl) (by kernel_rfl)) ?_
  intro W base args ds gs before hval hW _ hsz0 _
  have hW' := hW
  obtain ⟨p, q, hA0, hV, rfl, hfz, hnd⟩ := hW
  have hA : DataW.TrodAll enc Try.prog W 0 (fun _ => true) true Try.f3.params.toList args.toList ds p := hA0
  rw [Try.params3] at hA hval hsz0
  obtain ⟨v0, vs0, d0, ds0, p0, q0, hargs, rfl, rfl, h0, r0⟩ := trodAll_cons hA
  obtain ⟨v1, vs1, d1, ds1, p1, q1, rfl, rfl, rfl, h1, r1⟩ := trodAll_cons r0
  obtain ⟨rfl, rfl, rfl⟩ := trodAll_nil r1
  obtain rfl : args = #[v0, v1] := by cases args; simp_all
  obtain ⟨rfl, rfl⟩ := trodVars_none hV
  obtain ⟨a0, len0, cap0, rfl⟩ := okWide_slice Try.underlying22 (hval 0 22 v0 rfl rfl)
  have k0 := h0
  have lt0 : ∀ x ∈ p0, x.block < W.heap.size := by obtain ⟨m, hm⟩ := k0; exact DataW.trod_lt m _ _ _ hm
  obtain ⟨z0, w0⟩ := tokensAt_of_reads k0
  obtain ⟨a1, len1, cap1, rfl⟩ := okWide_slice Try.underlying22 (hval 1 22 v1 rfl rfl)
  have k1 := h1
  have lt1 : ∀ x ∈ p1, x.block < W.heap.size := by obtain ⟨m, hm⟩ := k1; exact DataW.trod_lt m _ _ _ hm
  obtain ⟨z1, w1⟩ := tokensAt_of_reads k1
  clear hA0
  refine (rulesBlocks_walk W _ z0 w0 _ z1 w1).mono fun e W' ⟨he, bel⟩ => ?_
  subst he
  exact ⟨_, rfl, _, _, _, [], _, [], hW', trodAll_mk1 (shut_bool Try.underlying4 _), (trodAll_cons_mk (Below.trod laidOut (by kernel_rfl) (of_decide_eq_true (by kernel_rfl)) k0 bel lt0) (trodAll_cons_mk (Below.trod laidOut (by kernel_rfl) (of_decide_eq_true (by kernel_rfl)) k1 bel lt1) trodAll_mk0)), rfl, bel.frame _, fun h => by cases h⟩

theorem rulesBlocks_said : Rows.RulesBlocksSaid :=
  OpenClaim.holds_of_wide 3 Try.f3 rfl rfl rfl rfl rfl rfl rfl ⟨rfl, rfl, rfl, rfl, rfl⟩ rfl rfl rfl rfl rfl (by kernel_rfl) Try.func3 (by kernel_rfl)
    (of_decide_eq_true (by kernel_rfl)) (by unfold Func.isWrapper; first | (rw [if_pos (by decide +kernel)]; kernel_rfl) | (rw [if_neg (by decide +kernel)]; exact ⟨rfl, rfl⟩))
    (fun os started H enc _ => rulesBlocks_lifted os started H enc)
#print axioms rulesBlocks_said


end Go.Proofs.Ytgfbgfcakblpoab
