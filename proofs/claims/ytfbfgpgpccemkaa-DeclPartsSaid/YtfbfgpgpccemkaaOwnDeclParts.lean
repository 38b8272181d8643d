/- For every two slices of bytes: the law tapestrierlaw6.DeclParts returns true and leaves its arguments as they were; no condition. -/
import Derived.Test.YtfbfgpgpccemkaaDcAlive
import Derived.Test.YtfbfgpgpccemkaaDcRefP
import Derived.Test.YtfbfgpgpccemkaaDcApp
import Derived.Test.YtfbfgpgpccemkaaRsArgs
namespace Go.Proofs.Ytfbfgpgpccemkaa
open Go Go.ChangeShapes Go.WideShapes Go.ChangeAt Go.RowKit Dc

/-- A row that the call owns, as a source. -/
theorem ownsSrc {X : World} {b : Nat} {e : TypeId} {s : Nat} {v : Value} {m : Nat} {xs : List Value} (h : X.ownsRow b e s v m xs) :
    (v = .slice none 0 0 ∧ m = 0) ∨ ∃ ad c, v = .slice (some ad) m c ∧ ∀ j u, xs[j]? = some u → X.cell? (ad.add j) = some u := by
  rcases h.2 with ⟨hv, hm⟩ | ⟨g, cap, cur, hv, hg, hb, h1, h2, h3, h4⟩
  · exact .inl ⟨hv, hm⟩
  · refine .inr ⟨_, cap, hv, fun j u hj => ?_⟩
    rw [addr_add, cell_of_block hb, Nat.zero_add]
    rw [← h4, List.getElem?_take] at hj
    split at hj
    · simpa using hj
    · cases hj
def semiT : Bt := ⟨12, ⟨#[]⟩, 0, false, 0⟩
def markT : List Bt := [⟨1, ⟨#[113]⟩, 0, false, 0⟩, ⟨11, ⟨#[]⟩, 0, false, 0⟩]
theorem q_ne {z : ByteArray} (h : z ≠ ⟨#[113]⟩) : (z.toList == [113]) = false := by
  rw [ByteArray.toList_eq, beq_eq_false_iff_ne]
  intro e
  exact h (ByteArray.ext (Array.toList_inj.1 e))
theorem dcOne (qs : List (Dc × Value)) (h : ∀ q ∈ qs, ∃ p n c, q.2 = .slice p n c) : ∀ u ∈ qs.flatMap dcCells, u.oneCell' = true := fun u hu => by
  obtain ⟨q, hq, hu⟩ := List.mem_flatMap.1 hu
  obtain ⟨p, n, c, e⟩ := h q hq
  simp [dcCells, e] at hu
  rcases hu with rfl | rfl | rfl <;> rfl
theorem dcLen : ∀ qs : List (Dc × Value), (qs.flatMap dcCells).length = qs.length * 3
  | [] => rfl
  | q :: qs => by
    have := dcLen qs
    rw [List.flatMap_cons, List.length_append, this, List.length_cons]
    show 3 + _ = _
    omega
theorem dcForms {b : Nat} {W : World} {v : Value} {qs : List (Dc × Value)} (h : DcsAt b W v qs) : ∀ q ∈ qs, ∃ p n c, q.2 = .slice p n c := fun q hq => by
  obtain ⟨p, c, e⟩ := form_of (h.each q hq)
  exact ⟨p, _, c, e⟩
theorem decls_len (l : List Bt) : (decls l).length ≤ l.length := by
  have key : ∀ (n : Nat) (l : List Bt), l.length ≤ n → (decls l).length ≤ l.length := by
    intro n
    induction n with
    | zero =>
      intro l hl
      obtain rfl : l = [] := List.length_eq_zero_iff.1 (by omega)
      exact Nat.le_refl _
    | succ n ih =>
      intro l hl
      cases l with
      | nil => exact Nat.le_refl _
      | cons t r =>
        rw [List.length_cons] at hl ⊢
        by_cases h9 : t.kind = 9 ∨ t.kind = 12
        · rw [decls_pass h9]
          have := ih r (by omega)
          omega
        · by_cases h2 : t.kind = 2
          · rw [decls_at h2]
            have := ih (r.drop (upto isEnd (kds r) + run [] ((kds r).drop (upto isEnd (kds r))))) (by rw [List.length_drop]; omega)
            rw [List.length_drop] at this
            omega
          · have hp := upto_semi_pos (t := t) (r := r) (fun e => h9 (.inr e))
            rw [decls_one (fun e => h9 (.inl e)) (fun e => h9 (.inr e)) h2, List.length_append]
            have := ih ((t :: r).drop (upto isSemi (kds (t :: r)))) (by rw [List.length_drop, List.length_cons]; omega)
            rw [List.length_drop, List.length_cons] at this
            have h1 : (declOf ((t :: r).take (upto isSemi (kds (t :: r))))).toList.length ≤ 1 := by cases declOf ((t :: r).take (upto isSemi (kds (t :: r)))) <;> simp
            omega
  exact key l.length l (Nat.le_refl _)

set_option maxRecDepth 100000 in
set_option maxHeartbeats 4000000 in
theorem declParts_walk (w : World) (va : Value) (al : List UInt8) (hva : BytesAt w.heap.size w va al) (vb : Value) (bs : List UInt8) (hvb : BytesAt w.heap.size w vb bs) :
    Calls Try.prog 7 #[va, vb] w fun e w' => e = .returned (.bool true) ∧ Below w.heap.size w w' := by
  have h0 := alive6_any w
  obtain ⟨i0, hi, hz0, hz1, hz2⟩ := info_parts infoTk6
  obtain ⟨j0, ji, jz0, jz1, jz2⟩ := info_parts infoDecl
  obtain ⟨p, cap, rfl, _⟩ := hva.len
  obtain ⟨p', cap', rfl, _⟩ := hvb.len
  go_enter Try.func7, Try.ntmps7
  go_wp2_with fail
  refine h0.mono ?_
  clear h0
  rintro e w1 ⟨rfl, b1⟩
  by_cases hn : 800 < al.length
  · have hni : (800 : Int) < (al.length : Int) := by omega
    clear hva hvb
    go_wp2
    go_ret
    exact ⟨rfl, b1⟩
  · have hni : ¬ (800 : Int) < (al.length : Int) := by omega
    by_cases hn' : 800 < bs.length
    · have hni' : (800 : Int) < (bs.length : Int) := by omega
      clear hva hvb
      go_wp2
      go_ret
      exact ⟨rfl, b1⟩
    · have hni' : ¬ (800 : Int) < (bs.length : Int) := by omega
      have hof := of_any _ al w1 ((hva.below b1).mono b1.size) (by omega)
      have hofb := fun W (h : Below w.heap.size w W) => of_any _ bs W ((hvb.below h).mono h.size) (by omega)
      clear hva hvb
      go_wp2_with fail
      refine hof.mono ?_
      clear hof
      rintro e w2 ⟨v2, rfl, hr2, b2⟩
      have hla := tksB_len al
      have hta := tksB_text al (by omega)
      have hlb := tksB_len bs
      have htb := tksB_text bs (by omega)
      generalize tksB al = A at *
      generalize tksB bs = B at *
      have b02 := below_next b1 b2
      have hs1 := b1.size
      have hs2 := b2.size
      go_upto_region 5 with (at_builtin; refine wpList_append_own _ rfl _ _ 22 rfl w1.heap.size 36 i0 (.agg #[.int .i64 0, .string ⟨#[]⟩, .int .i64 0, .bool false, .int .i64 0]) 5 48 Try.underlying22 hi hz0 hz1 hz2 rfl (by decide) _ A.length (btsCells A) rfl (hr2.alloc _) _ 1 1 [.int .i64 12, .string ⟨#[]⟩, .int .i64 0, .bool false, .int .i64 0] rfl rfl (cells_new _ [.int .i64 12, .string ⟨#[]⟩, .int .i64 0, .bool false, .int .i64 0] _) (fun u hu => by simp at hu; rcases hu with rfl | rfl | rfl | rfl | rfl <;> rfl) (by unfold maxLen; omega) (by omega) (by rw [World.size_alloc]; omega) ?_; intro v3 w3 hown3 hgrow3 hnil3)
      have b3 : Below w.heap.size w w3 := (b02.alloc b02.size _).grown hgrow3 (by rw [World.size_alloc]; omega) (fun j e => by have := (hr2.lt j e).1; omega)
      have hT : BtsAt w3.heap.size w3 v3 (A ++ [semiT]) := BtsAt.of_owns (b := w1.heap.size) (m := A.length + 1) (by rw [btsCells_append]; exact hown3) (by simp)
      have hTl : (A ++ [semiT]).length ≤ 801 := by simp; omega
      have hTx : Hid (∀ t ∈ A ++ [semiT], t.text.size ≤ maxLen) := fun t ht => by
        rcases List.mem_append.1 ht with h | h
        · exact hta t h
        · obtain rfl : t = semiT := by simpa using h
          exact Nat.zero_le _
      clear hown3 hgrow3 hnil3 hr2 b2 b02 hta hla
      generalize A ++ [semiT] = T at *
      have hsz3 := b3.size
      have hTM : Hid ((T ++ markT).length ≤ 803 ∧ ∀ t ∈ T ++ markT, t.text.size ≤ maxLen) := by
        refine ⟨by simp [markT]; omega, fun t ht => ?_⟩
        rcases List.mem_append.1 ht with h | h
        · exact hTx t h
        · simp only [markT, List.mem_cons, List.not_mem_nil, or_false] at h
          rcases h with rfl | rfl <;> (unfold maxLen; decide)
      have hTB : Hid ((T ++ B).length ≤ 1601 ∧ ∀ t ∈ T ++ B, t.text.size ≤ maxLen) := by
        refine ⟨by simp; omega, fun t ht => ?_⟩
        rcases List.mem_append.1 ht with h | h
        · exact hTx t h
        · exact htb t h
      have hB : Hid (B.length ≤ 800 ∧ ∀ t ∈ B, t.text.size ≤ maxLen) := ⟨by omega, htb⟩
      have hBl : B.length ≤ 800 := by omega
      have hM4 := cells_new w3 (btsCells markT) 36
      have b4 : Below w3.heap.size w3 (w3.alloc (.cells (btsCells markT).toArray 36)) := (Below.refl _ w3).alloc (Nat.le_refl _) _
      have hs4 : (w3.alloc (.cells (btsCells markT).toArray 36)).heap.size = w3.heap.size + 1 := World.size_alloc _ _
      have hT4 := hT.next b4
      clear htb hlb
      go_upto_region 6 with fail
      change Code.wp _ _ _ _ (w3.alloc (.cells (btsCells markT).toArray 36))
      generalize w3.alloc (.cells (btsCells markT).toArray 36) = w4 at *
      have b04 := below_next b3 b4
      have hsrcT := btsSrc hT4
      have hml : (btsCells markT).length = 2 * 5 := rfl
      go_wp2_with (first
        | (at_builtin; refine wpList_append_src _ rfl _ _ 22 rfl w4.heap.size 36 i0 (.agg #[.int .i64 0, .string ⟨#[]⟩, .int .i64 0, .bool false, .int .i64 0]) 5 48 Try.underlying22 hi hz0 hz1 hz2 rfl (by decide) _ 0 [] rfl (World.ownsRow_nil _ _ _ _) _ T.length (btsCells T) rfl (btsCells_length T) hsrcT (btsCells_one T) (by unfold maxLen; omega) (by omega) (Nat.le_refl _) ?_; intro v5 w5 hown5 hgrow5; rw [Nat.zero_add, List.nil_append] at hown5; have b5 : Below w4.heap.size w4 w5 := (Below.refl _ _).grown hgrow5 (Nat.le_refl _) (fun r e => by cases e))
        | (at_builtin; refine wpList_append_own _ rfl _ _ 22 rfl w4.heap.size 36 i0 (.agg #[.int .i64 0, .string ⟨#[]⟩, .int .i64 0, .bool false, .int .i64 0]) 5 48 Try.underlying22 hi hz0 hz1 hz2 rfl (by decide) _ T.length (btsCells T) rfl hown5 ⟨w3.heap.size, 0, none⟩ 2 2 (btsCells markT) rfl hml (fun j u hj => by have := hM4 j u hj; rw [addr_add] at this ⊢; exact (b5.cell (p := ⟨w3.heap.size, 0 + j, none⟩) (show w3.heap.size < _ by omega)).trans this) (btsCells_one markT) (by unfold maxLen; omega) (by omega) (by have := b5.size; omega) ?_; intro v6 w6 hown6 hgrow6 hnil6))
      have b6 : Below w4.heap.size w4 w6 := b5.grown hgrow6 b5.size (fun j e => (hown5.lt j e).1)
      have b06 := below_next b04 b6
      have hv6 : BtsAt w6.heap.size w6 v6 (T ++ markT) := BtsAt.of_owns (b := w4.heap.size) (m := T.length + 2) (by rw [btsCells_append]; exact hown6) (by simp [markT])
      have h7 := refDecls_any v6 (T ++ markT) w6 hv6 hTM.2 (Nat.le_trans hTM.1 (by omega))
      have hT6 := hT4.next b6
      have hfact : (decls (T ++ markT)).length = (decls T).length + 1 → decls (T ++ B) = decls T ++ decls B := fun h => decls_app rfl rfl _ T (Nat.le_refl _) h B
      have hdl1 : (decls (T ++ markT)).length ≤ 803 := Nat.le_trans (decls_len _) hTM.1
      have hdl2 : (decls T).length ≤ 801 := Nat.le_trans (decls_len _) hTl
      clear hown5 hgrow5 hown6 hgrow6 hnil6 hsrcT hM4 hml b5 hv6 hTM hT4 hs4 b4
      refine h7.mono ?_
      clear h7
      rintro e w7 ⟨v7, rfl, ⟨qs, hq, hR⟩, b7⟩
      have b07 := below_next b06 b7
      have hT7 := hT6.next b7
      rw [← hq, List.length_map] at hfact hdl1
      by_cases hq0 : qs = []
      · subst hq0
        obtain ⟨p7, cap7, rfl⟩ := hR.form
        clear hR hq hfact
        go_wp2
        go_ret
        exact ⟨rfl, b07⟩
      · obtain ⟨ini, q, rfl⟩ : ∃ a t, qs = a ++ [t] := ⟨qs.dropLast, qs.getLast hq0, (List.dropLast_concat_getLast hq0).symm⟩
        obtain ⟨p7, cap7, rfl⟩ := hR.form
        obtain ⟨bk, off, q1, c1, rfl, a0, a1, _, _⟩ := hR.get (k := ini.length) (d := q.1) (by simp)
        rw [show (ini ++ [q]).length = ini.length + 1 by simp] at *
        have hz : ¬ (ini.length : Int) + 1 = 0 := by omega
        have hz' : ((ini.length : Int) + 1 == 0) = false := by simpa using hz
        have hsb : IntKind.i64.wrap ((ini.length : Int) + 1 - 1) = (ini.length : Int) := by rw [IntKind.wrap_i64]; omega
        have hsb2 : IntKind.i64.wrap (ini.length : Int) = (ini.length : Int) := by rw [IntKind.wrap_i64]; omega
        have hlt3 : (ini.length : Int) < (ini.length : Int) + 1 := by omega
        obtain ⟨⟨dn, dv, di⟩, qx⟩ := q
        simp only at a0 a1
        clear hR hq hq0
        by_cases hdn : dn = ⟨#[113]⟩
        · subst hdn
          by_cases hdv : dv.length = 0
          · rw [hdv] at a1
            have h8 := refDecls_any v3 T w7 hT7 hTx (by omega)
            go_wp2_with fail
            refine h8.mono ?_
            clear h8
            rintro e w8 ⟨v8, rfl, ⟨qs2, hq2, hR2⟩, b8⟩
            have b08 := below_next b07 b8
            have hT8 := hT7.next b8
            obtain ⟨p8, cap8, rfl⟩ := hR2.form
            rw [← hq2, List.length_map] at hfact hdl2
            clear a0 a1 hR2
            by_cases hlen : ini.length + 1 = qs2.length + 1
            · have HF := hfact hlen
              have hleni : ((ini.length : Int) + 1) = ((qs2.length : Int) + 1) := by omega
              rw [hq2] at HF
              clear hfact hq2
              have hsrc8 := btsSrc hT8
              go_wp2_with (at_builtin; refine wpList_append_src _ rfl _ _ 22 rfl w8.heap.size 36 i0 (.agg #[.int .i64 0, .string ⟨#[]⟩, .int .i64 0, .bool false, .int .i64 0]) 5 48 Try.underlying22 hi hz0 hz1 hz2 rfl (by decide) _ 0 [] rfl (World.ownsRow_nil _ _ _ _) _ T.length (btsCells T) rfl (btsCells_length T) hsrc8 (btsCells_one T) (by unfold maxLen; omega) (by omega) (Nat.le_refl _) ?_; intro v9 w9 hown9 hgrow9; rw [Nat.zero_add, List.nil_append] at hown9)
              have b9 : Below w8.heap.size w8 w9 := (Below.refl _ _).grown hgrow9 (Nat.le_refl _) (fun r e => by cases e)
              have b09 := below_next b08 b9
              have h10 := hofb w9 b09
              refine h10.mono ?_
              clear h10
              rintro e w10 ⟨v10, rfl, hr10, b10⟩
              have b010 := below_next b09 b10
              have hown10 := hown9.kept (grown_of_below' b10 none) (no_block _)
              have hsrc10 := ownsSrc hr10
              have hs810 := Nat.le_trans b9.size b10.size
              go_wp2_with (at_builtin; refine wpList_append_src _ rfl _ _ 22 rfl w8.heap.size 36 i0 (.agg #[.int .i64 0, .string ⟨#[]⟩, .int .i64 0, .bool false, .int .i64 0]) 5 48 Try.underlying22 hi hz0 hz1 hz2 rfl (by decide) _ T.length (btsCells T) rfl hown10 _ B.length (btsCells B) rfl (btsCells_length B) hsrc10 (btsCells_one B) (by unfold maxLen; omega) (by omega) hs810 ?_; intro v11 w11 hown11 hgrow11)
              have b11 : Below w8.heap.size w8 w11 := (b9.trans (b10.mono b9.size)).grown hgrow11 hs810 (fun j e => (hown10.lt j e).1)
              have b011 := below_next b08 b11
              have hT11 := hT8.next b11
              have hv11 : BtsAt w11.heap.size w11 v11 (T ++ B) := BtsAt.of_owns (b := w8.heap.size) (m := T.length + B.length) (by rw [btsCells_append]; exact hown11) (by simp)
              have h12 := parse_any v11 (T ++ B) w11 hv11 hTB.2 (Nat.le_trans hTB.1 (by omega))
              clear hown9 hgrow9 hr10 hown10 hsrc10 hsrc8 hown11 hgrow11 hv11 b9 b10 b010 b09 hs810
              refine h12.mono ?_
              clear h12
              rintro e w12 ⟨v12, rfl, ⟨qm, hqm, hRm⟩, b12⟩
              have b012 := below_next b011 b12
              have hT12 := hT11.next b12
              have h13 := parse_any v3 T w12 hT12 hTx (by omega)
              go_wp2_with fail
              refine h13.mono ?_
              clear h13
              rintro e w13 ⟨v13, rfl, ⟨qx, hqx, hRx⟩, b13⟩
              have b013 := below_next b012 b13
              have h14 := hofb w13 b013
              go_wp2_with fail
              refine h14.mono ?_
              clear h14
              rintro e w14 ⟨v14, rfl, hr14, b14⟩
              have b014 := below_next b013 b14
              have h15 := parse_any v14 B w14 (BtsAt.of_owns hr14 rfl) hB.2 (Nat.le_trans hB.1 (by omega))
              go_wp2_with fail
              refine h15.mono ?_
              clear h15 hr14
              rintro e w15 ⟨v15, rfl, ⟨qy, hqy, hRy⟩, b15⟩
              have b015 := below_next b014 b15
              have hRm15 := hRm.kept (grown_of_below' (below_next (below_next b13 b14) b15) none)
              have hRx15 := hRx.kept (grown_of_below' (below_next b14 b15) none)
              have hsx := ownsSrc hRx15.row
              have hsy0 := ownsSrc hRy.row
              have hlx : qx.length ≤ 801 := by
                have := decls_len T
                rw [← hqx, List.length_map] at this
                omega
              have hly : qy.length ≤ 800 := by
                have := decls_len B
                rw [← hqy, List.length_map] at this
                omega
              have hox := dcOne qx (dcForms hRx15)
              have hoy := dcOne qy (dcForms hRy)
              have hb15y : w14.heap.size ≤ w15.heap.size := b15.size
              go_wp2_with (first
                | (at_builtin; refine wpList_append_src _ rfl _ _ 26 rfl w15.heap.size 34 j0 (.agg #[.string ⟨#[]⟩, .slice none 0 0, .bool false]) 3 48 Try.underlying26 ji jz0 jz1 jz2 rfl (by decide) _ 0 [] rfl (World.ownsRow_nil _ _ _ _) _ qx.length (qx.flatMap dcCells) rfl (dcLen qx) hsx hox (by unfold maxLen; omega) (by omega) (Nat.le_refl _) ?_; intro v16 w16 hown16 hgrow16; rw [Nat.zero_add, List.nil_append] at hown16; have b16 : Below w15.heap.size w15 w16 := (Below.refl _ _).grown hgrow16 (Nat.le_refl _) (fun r e => by cases e); have hsy := ownsSrc (hRy.row.kept (grown_of_below' b16 none) (no_block _)))
                | (at_builtin; refine wpList_append_src _ rfl _ _ 26 rfl w15.heap.size 34 j0 (.agg #[.string ⟨#[]⟩, .slice none 0 0, .bool false]) 3 48 Try.underlying26 ji jz0 jz1 jz2 rfl (by decide) _ qx.length (qx.flatMap dcCells) rfl hown16 _ qy.length (qy.flatMap dcCells) rfl (dcLen qy) hsy hoy (by unfold maxLen; omega) (by omega) (by have := b16.size; omega) ?_; intro v17 w17 hown17 hgrow17))
              have b17 : Below w15.heap.size w15 w17 := b16.grown hgrow17 b16.size (fun j e => (hown16.lt j e).1)
              have b017 := below_next b015 b17
              have hRm17 := hRm15.kept (grown_of_below' b17 none)
              have hRx17 := hRx15.kept (grown_of_below' b17 none)
              have hRy17 := hRy.kept (grown_of_below' b17 none)
              have hR17 : DcsAt 0 w17 v17 (qx ++ qy) := by
                refine ⟨?_, fun q hq => ?_⟩
                · rw [List.length_append, List.flatMap_append]
                  exact owns_base hown17 (Nat.zero_le _)
                · rcases List.mem_append.1 hq with h | h
                  · exact owns_base (hRx17.each q h) (Nat.zero_le _)
                  · exact owns_base (hRy17.each q h) (Nat.zero_le _)
              have h18 := sameDecls_yes v12 v17 qm (qx ++ qy) _ _ w17 hRm17 hR17 (by rw [hqm, HF, List.map_append, hqx, hqy])
              clear hRm hRx hRy hRm15 hRx15 hRm17 hRx17 hRy17 hR17 hown16 hgrow16 hown17 hgrow17 hsx hsy hsy0 hox hoy HF hqm hqx hqy
              refine h18.mono ?_
              clear h18
              rintro e w18 ⟨rfl, n, rfl⟩
              go_wp2
              go_ret
              exact ⟨rfl, below_next b017 (below_drewN _ _)⟩
            · have hleni : ¬ ((ini.length : Int) + 1) = ((qs2.length : Int) + 1) := by omega
              have hleni' : ((ini.length : Int) + 1 != (qs2.length : Int) + 1) = true := by simpa using hleni
              clear hfact hq2
              go_wp2
              go_ret
              exact ⟨rfl, b08⟩
          · have hdv' : ((dv.length : Int) != 0) = true := by rw [bne_iff_ne]; omega
            clear hfact
            go_wp2
            go_ret
            exact ⟨rfl, b07⟩
        · have hdn' := q_ne hdn
          clear hfact
          go_wp2
          go_ret
          exact ⟨rfl, b07⟩


set_option maxRecDepth 100000 in
theorem declParts_lifted (os : Os) (started : os.Started) (H : Type) (enc : TypeId × Value → H) :
    ReturnsInHanded {} Try.checked os 7 .any (Rows.declPartsSpec.pre6 enc Try.prog Try.f7 Rows.declPartsRow.domain false) (Rows.declPartsSpec.post enc Try.prog Try.f7 false true false false) := by
  refine returnsInHanded_of_change_sized (C := Try.checked) ownNone started (by kernel_rfl) Try.func7
    (ChangeSpec.witness6 (enc := enc) (C := Try.checked) false ⟨#[], #[.slice none 0 0, .slice none 0 0], []⟩ 8 (by kernel_rfl) (by kernel_rfl) (by kernel_rfl) (by kernel_rfl)) ?_
  intro W base args ds gs before hval hW _ hsz0 _
  have hW' := hW
  obtain ⟨p, q, hA0, hV, rfl, hfz, hnd⟩ := hW
  have hA : DataW.TrodAll enc Try.prog W 0 (fun _ => true) true Try.f7.params.toList args.toList ds p := hA0
  rw [Try.params7] at hA hval hsz0
  obtain ⟨v0, vs0, d0, ds0, p0, q0, hargs, rfl, rfl, h0, r0⟩ := trodAll_cons hA
  obtain ⟨v1, vs1, d1, ds1, p1, q1, rfl, rfl, rfl, h1, r1⟩ := trodAll_cons r0
  obtain ⟨rfl, rfl, rfl⟩ := trodAll_nil r1
  obtain rfl : args = #[v0, v1] := by cases args; simp_all
  obtain ⟨rfl, rfl⟩ := trodVars_none hV
  obtain ⟨a0, len0, cap0, rfl⟩ := okWide_slice Try.underlying28 (hval 0 28 v0 rfl rfl)
  have k0 := h0
  have lt0 : ∀ x ∈ p0, x.block < W.heap.size := by obtain ⟨m, hm⟩ := k0; exact DataW.trod_lt m _ _ _ hm
  obtain ⟨z0, w0⟩ := bytesAt_of_reads k0
  obtain ⟨a1, len1, cap1, rfl⟩ := okWide_slice Try.underlying28 (hval 1 28 v1 rfl rfl)
  have k1 := h1
  have lt1 : ∀ x ∈ p1, x.block < W.heap.size := by obtain ⟨m, hm⟩ := k1; exact DataW.trod_lt m _ _ _ hm
  obtain ⟨z1, w1⟩ := bytesAt_of_reads k1
  clear hA0
  refine (declParts_walk W _ z0 w0 _ z1 w1).mono fun e W' ⟨he, bel⟩ => ?_
  subst he
  exact ⟨_, rfl, _, _, _, [], _, [], hW', trodAll_mk1 (shut_bool Try.underlying4 _), (trodAll_cons_mk (Below.trod laidOut (by kernel_rfl) (of_decide_eq_true (by kernel_rfl)) k0 bel lt0) (trodAll_cons_mk (Below.trod laidOut (by kernel_rfl) (of_decide_eq_true (by kernel_rfl)) k1 bel lt1) trodAll_mk0)), rfl, bel.frame _, fun h => by cases h⟩

theorem declParts_said : Rows.DeclPartsSaid :=
  OpenClaim.holds_of_wide 7 Try.f7 rfl rfl rfl rfl rfl rfl rfl ⟨rfl, rfl, rfl, rfl, rfl⟩ rfl rfl rfl rfl rfl (by kernel_rfl) Try.func7 (by kernel_rfl)
    (of_decide_eq_true (by kernel_rfl)) (by unfold Func.isWrapper; first | (rw [if_pos (by decide +kernel)]; kernel_rfl) | (rw [if_neg (by decide +kernel)]; exact ⟨rfl, rfl⟩))
    (fun os started H enc _ => declParts_lifted os started H enc)
#print axioms declParts_said


end Go.Proofs.Ytfbfgpgpccemkaa
