/- For all slices of bytes: the law tapestrierlaw4.TokKinds returns true and leaves its argument as it was; conditions: the tables hold what their texts lay (the card ties them to the program's text). -/
import Derived.Test.YtlgfmncflnipgaaDoorTkCmt
import Derived.Test.YtlgfmncflnipgaaDoorAppSrc
namespace Go.Proofs.YtlgfmncflnipgaaDoor
open Go Go.ChangeShapes Go.WideShapes Go.ChangeAt Go.RowKit

set_option maxRecDepth 100000 in
set_option maxHeartbeats 8000000 in
theorem tokKinds_walk (w : World) (hT : LTabs w.heap.size w) (v : Value) (bs : List UInt8) (hB : BytesAt w.heap.size w v bs) :
    Calls Tryd.prog 3 #[v] w fun e w' => e = .returned (.bool true) ∧ Below w.heap.size w w' := by
  have h0 := alive_any w hT
  obtain ⟨i0, hi, hz0, hz1, hz2⟩ := info_parts infoTk9
  obtain ⟨p, cap, rfl⟩ := bytes_list hB
  go_enter Tryd.func3, Tryd.ntmps3
  go_wp2_with fail
  refine h0.mono ?_
  clear h0
  rintro e w1 ⟨rfl, b1⟩
  by_cases hn : 1000 < bs.length
  · have hni : (1000 : Int) < (bs.length : Int) := by omega
    clear hB hT
    go_wp2
    go_ret
    exact ⟨rfl, b1⟩
  have hni : ¬ (1000 : Int) < (bs.length : Int) := by omega
  have hB1 := (hB.below b1).mono b1.size
  have hT1 := hT.next b1
  have h2 := ofB_any _ bs w1 hB1 hT1 (by omega)
  have hlen := tksOf_len bs
  have HX : Hid (∀ t ∈ tksOf bs, (txtOf t.text).size ≤ 1000000) := txt_short (by omega)
  have HK : Hid (∀ t ∈ tksOf bs, Kindly t) := toks_kindly nvOf nv_bounds _ _ (Nat.le_refl _)
  have HA : Hid (noBytes bs → apart (tksOf bs)) := fun h => (toks_apart nvOf _ _ (Nat.le_refl _) (prep_noComment h)).1
  go_wp2_with fail
  refine h2.mono ?_
  clear h2
  rintro e w2 ⟨v2, rfl, r2, b2⟩
  have b02 := b1.trans (b2.mono b1.size)
  have hT2 := hT1.next b2
  have T2 := TksAt.of_owns r2
  have hB2 := (hB1.below b2).mono b2.size
  have HC : Hid (∀ X, Below w2.heap.size w2 X → Calls Tryd.prog 6 #[.slice p bs.length cap] X fun e w' => (e = .returned (.bool true) ∨ (e = .returned (.bool false) ∧ noBytes bs)) ∧ w' = X) := fun X hX => comment_any _ bs X ((hB2.below hX).mono hX.size) (by omega)
  generalize tksOf bs = ts at *
  clear hB hB1 hB2 hT hT1
  obtain ⟨p2, cap2, rfl⟩ := T2.len
  go_wp2
  go_loopw [5] (fun x wr => ∃ k : Nat, x = .int .i64 k ∧ k ≤ ts.length ∧ Below w2.heap.size w2 wr) (fun x _ => ts.length - (intOf x).toNat)
  case atStart => exact ⟨0, rfl, Nat.zero_le _, Below.refl _ _⟩
  case round =>
    obtain ⟨k, rfl, hk, hb⟩ := hrel
    by_cases hlt : k < ts.length
    · have hki : (k : Int) < (ts.length : Int) := by omega
      have hK := (show ∀ t ∈ ts, Kindly t from HK) ts[k] (List.getElem_mem hlt)
      obtain ⟨bk, off, hp, hbk, hcs⟩ : ∃ bk off, p2 = some ⟨bk, off, none⟩ ∧ bk < w2.heap.size ∧ ∀ j t, ts[j]? = some t → CellsAt wr bk (off + j * 5) t := by
        rcases T2.below hb with ⟨rfl, _⟩ | ⟨bk, off, cap, e, hbk, h⟩
        · simp at hlt
        · cases e
          exact ⟨bk, off, rfl, hbk, h⟩
      subst hp
      obtain ⟨c0, c1, c2, c3, c4⟩ := hcs k _ (List.getElem?_eq_getElem hlt)
      have HP : Hid (∀ q, ts[k - 1]? = some q → wr.cell? ⟨bk, off + (k - 1) * 5, none⟩ = some (.int .i64 q.kind)) := fun q hq => (hcs (k - 1) q hq).1
      have HAP : Hid (0 < k → noBytes bs → ∀ q, ts[k - 1]? = some q → ¬ (q.kind = 9 ∧ ts[k].kind = 9)) := fun h0 h1 q hq => apart_at ts (HA h1) (k - 1) q ts[k] hq (by rw [Nat.sub_add_cancel h0]; exact List.getElem?_eq_getElem hlt)
      have HPQ : Hid (0 < k → ∃ q, ts[k - 1]? = some q) := fun h0 => ⟨_, List.getElem?_eq_getElem (by omega)⟩
      generalize ts[k] = t at *
      obtain ⟨kd, tl, n, wh, c⟩ := t
      obtain ⟨q1, q2, q3, q4, q5, q6, q7, q8, q9⟩ := hK
      simp only at c0 c1 c2 c3 c4 q1 q2 q3 q4 q5 q6 q7 q8 q9 HAP
      clear hcs
      obtain ⟨TB, hTB⟩ : ∃ TB, hasText kd = TB := ⟨_, rfl⟩
      obtain ⟨NB, hNB⟩ : ∃ NB, hasNum kd = NB := ⟨_, rfl⟩
      rw [hTB] at q3 q7
      rw [hNB] at q4
      have q3' : TB = false → txtOf tl = ⟨#[]⟩ := fun h => txt_nil (q3 h)
      have q7' : TB = true → kd ≠ 4 → (txtOf tl).toList ≠ [] := fun h h4 => txt_ne (q7 h h4)
      generalize txtOf tl = tx at *
      clear q3 q7
      have bX : Below wr.heap.size wr (wr.alloc (.cells #[.int .i64 kd, .string tx, .int .i64 n, .bool wh, .int .i64 c] 27)) := (Below.refl _ wr).alloc (Nat.le_refl _) _
      have hk0 : (wr.alloc (.cells #[.int .i64 kd, .string tx, .int .i64 n, .bool wh, .int .i64 c] 27)).heap[wr.heap.size]? = some (.cells #[.int .i64 kd, .string tx, .int .i64 n, .bool wh, .int .i64 c] 27 (0, 0)) := World.alloc_heap_new wr _
      have hsb := hb.size
      go_upto_region 9 with fail
      generalize wr.alloc (.cells #[.int .i64 kd, .string tx, .int .i64 n, .bool wh, .int .i64 c] 27) = X at *
      have e0 : X.cell? ⟨wr.heap.size, 0, none⟩ = some (.int .i64 kd) := by rw [cell_of_block hk0]; rfl
      have e1 : X.cell? ⟨wr.heap.size, 1, none⟩ = some (.string tx) := by rw [cell_of_block hk0]; rfl
      have e2 : X.cell? ⟨wr.heap.size, 2, none⟩ = some (.int .i64 n) := by rw [cell_of_block hk0]; rfl
      have e3 : X.cell? ⟨wr.heap.size, 3, none⟩ = some (.bool wh) := by rw [cell_of_block hk0]; rfl
      have e4 : X.cell? ⟨wr.heap.size, 4, none⟩ = some (.int .i64 c) := by rw [cell_of_block hk0]; rfl
      have hbX := hb.trans (bX.mono hb.size)
      have HP2 : Hid (∀ q, ts[k - 1]? = some q → X.cell? ⟨bk, off + (k - 1) * 5, none⟩ = some (.int .i64 q.kind)) := fun q hq => (bX.cell (p := ⟨bk, off + (k - 1) * 5, none⟩) (show bk < _ by omega)).trans ((show ∀ q, ts[k - 1]? = some q → wr.cell? ⟨bk, off + (k - 1) * 5, none⟩ = some (.int .i64 q.kind) from HP) q hq)
      clear HP hk0 c0 c1 c2 c3 c4 bX
      go_cut [7] (fun x wx => x = .bool TB ∧ X = wx)
      case first => as_aux_lemma =>
        clear q4 q5 q6 q7' q3' hNB HP2 HAP HPQ HX HK HA HC e1 e2 e3 e4
        by_cases k1 : kd = 1
        · subst k1
          obtain rfl : true = TB := by rw [← hTB]; rfl
          clear hTB
          go_wp2
          go_meet
          exact ⟨rfl, rfl⟩
        have g1 : (kd == 1) = false := by simpa using k1
        by_cases k2 : kd = 2
        · subst k2
          obtain rfl : true = TB := by rw [← hTB]; rfl
          clear hTB
          go_wp2
          go_meet
          exact ⟨rfl, rfl⟩
        have g2 : (kd == 2) = false := by simpa using k2
        by_cases k3 : kd = 3
        · subst k3
          obtain rfl : true = TB := by rw [← hTB]; rfl
          clear hTB
          go_wp2
          go_meet
          exact ⟨rfl, rfl⟩
        have g3 : (kd == 3) = false := by simpa using k3
        by_cases k4 : kd = 4
        · subst k4
          obtain rfl : true = TB := by rw [← hTB]; rfl
          clear hTB
          go_wp2
          go_meet
          exact ⟨rfl, rfl⟩
        have g4 : (kd == 4) = false := by simpa using k4
        by_cases k8 : kd = 8
        · subst k8
          obtain rfl : true = TB := by rw [← hTB]; rfl
          clear hTB
          go_wp2
          go_meet
          exact ⟨rfl, rfl⟩
        have g8 : (kd == 8) = false := by simpa using k8
        by_cases k20 : kd = 20
        · subst k20
          obtain rfl : true = TB := by rw [← hTB]; rfl
          clear hTB
          go_wp2
          go_meet
          exact ⟨rfl, rfl⟩
        have g20 : (kd == 20) = false := by simpa using k20
        obtain rfl : false = TB := by rw [← hTB]; simp [hasText, g1, g2, g3, g4, g8, g20]
        clear hTB k1 k2 k3 k4 k8 k20
        go_wp2
        go_meet
        exact ⟨rfl, rfl⟩
      case rest =>
      obtain ⟨rfl, rfl⟩ := hcut
      go_upto_region 10 with fail
      go_cut [8] (fun x wx => x = .bool NB ∧ X = wx)
      case first => as_aux_lemma =>
        clear q4 q5 q6 q7' q3' hTB HP2 HAP HPQ HX HK HA HC e1 e2 e3 e4
        by_cases k6 : kd = 6
        · subst k6
          obtain rfl : true = NB := by rw [← hNB]; rfl
          clear hNB
          go_wp2
          go_meet
          exact ⟨rfl, rfl⟩
        have g6 : (kd == 6) = false := by simpa using k6
        by_cases k7 : kd = 7
        · subst k7
          obtain rfl : true = NB := by rw [← hNB]; rfl
          clear hNB
          go_wp2
          go_meet
          exact ⟨rfl, rfl⟩
        have g7 : (kd == 7) = false := by simpa using k7
        by_cases k8 : kd = 8
        · subst k8
          obtain rfl : true = NB := by rw [← hNB]; rfl
          clear hNB
          go_wp2
          go_meet
          exact ⟨rfl, rfl⟩
        have g8 : (kd == 8) = false := by simpa using k8
        obtain rfl : false = NB := by rw [← hNB]; simp [hasNum, g6, g7, g8]
        clear hNB k6 k7 k8
        go_wp2
        go_meet
        exact ⟨rfl, rfl⟩
      case rest =>
      obtain ⟨rfl, rfl⟩ := hcut
      go_upto_region 11 with fail
      go_cut [138] (fun x wx => x = .bool false ∧ X = wx)
      case first => as_aux_lemma =>
        clear HP2 HAP HPQ HX HK HA HC
        have k1 : ¬ kd < 1 := by omega
        have k2 : ¬ 20 < kd := by omega
        have k3 : ¬ 2147483647 < n := by omega
        have k4 : ¬ n < -2147483647 := by omega
        by_cases k6 : kd = 6
        · subst k6
          obtain rfl : false = TB := by rw [← hTB]; rfl
          obtain rfl : true = NB := by rw [← hNB]; rfl
          obtain rfl := q3' rfl
          obtain rfl := q6 (by decide)
          clear q3' q4 q5 q6 q7' hTB hNB
          go_wp2
          go_meet
          exact ⟨rfl, rfl⟩
        have g6 : (kd != 6) = true := by simpa using k6
        obtain rfl := q5 k6
        by_cases k10 : kd = 10
        · subst k10
          obtain rfl : false = TB := by rw [← hTB]; rfl
          obtain rfl : false = NB := by rw [← hNB]; rfl
          obtain rfl := q3' rfl
          obtain rfl := q4 rfl
          clear q3' q4 q5 q6 q7' hTB hNB k6
          go_wp2
          go_meet
          exact ⟨rfl, rfl⟩
        have g10 : (kd != 10) = true := by simpa using k10
        obtain rfl := q6 k10
        by_cases k4' : kd = 4
        · subst k4'
          obtain rfl : true = TB := by rw [← hTB]; rfl
          obtain rfl : false = NB := by rw [← hNB]; rfl
          obtain rfl := q4 rfl
          clear q3' q4 q5 q6 q7' hTB hNB k6 k10
          go_wp2
          go_meet
          exact ⟨rfl, rfl⟩
        have g4 : (kd != 4) = true := by simpa using k4'
        cases TB with
        | true =>
          have hx := q7' rfl k4'
          have hx1 : (tx.toList == []) = false := by rw [beq_eq_false_iff_ne]; exact hx
          have hx2 : tx.toList.isEmpty = false := by cases h : tx.toList with | nil => exact absurd h hx | cons a b => rfl
          cases NB with
          | true =>
            clear q3' q4 q5 q6 q7' hTB hNB k6 k10 k4' hx
            go_wp2
            go_meet
            exact ⟨rfl, rfl⟩
          | false =>
            obtain rfl := q4 rfl
            clear q3' q4 q5 q6 q7' hTB hNB k6 k10 k4' hx
            go_wp2
            go_meet
            exact ⟨rfl, rfl⟩
        | false =>
          obtain rfl := q3' rfl
          cases NB with
          | true =>
            clear q3' q4 q5 q6 q7' hTB hNB k6 k10 k4'
            go_wp2
            go_meet
            exact ⟨rfl, rfl⟩
          | false =>
            obtain rfl := q4 rfl
            clear q3' q4 q5 q6 q7' hTB hNB k6 k10 k4'
            go_wp2
            go_meet
            exact ⟨rfl, rfl⟩
      case rest =>
      obtain ⟨rfl, rfl⟩ := hcut
      clear e1 e2 e3 e4 q4 q5 q6 q7' q3' hTB hNB
      go_upto_region 13 with fail
      go_cut [159] (fun x wx => x = .bool false ∧ X = wx)
      case first => as_aux_lemma =>
        by_cases hk0 : k = 0
        · subst hk0
          clear HP2 HAP HPQ HX HK HA HC
          go_wp2
          go_meet
          exact ⟨rfl, rfl⟩
        · have hk0' : (0 : Int) < (k : Int) := by omega
          by_cases h9 : kd = 9
          · subst h9
            obtain ⟨q, hq⟩ := (show 0 < k → ∃ q, ts[k - 1]? = some q from HPQ) (by omega)
            have cp := (show ∀ q, ts[k - 1]? = some q → X.cell? ⟨bk, off + (k - 1) * 5, none⟩ = some (.int .i64 q.kind) from HP2) q hq
            have hap := fun h => (show 0 < k → noBytes bs → ∀ q, ts[k - 1]? = some q → ¬ (q.kind = 9 ∧ (9 : Int) = 9) from HAP) (by omega) h q hq
            have hwr : IntKind.i64.wrap ((k : Int) - 1) = ((k - 1 : Nat) : Int) := by rw [IntKind.wrap_i64]; omega
            have hkl : ((k - 1 : Nat) : Int) < (ts.length : Int) := by omega
            have hc := (show ∀ X, Below w2.heap.size w2 X → Calls Tryd.prog 6 #[.slice p bs.length cap] X fun e w' => (e = .returned (.bool true) ∨ (e = .returned (.bool false) ∧ noBytes bs)) ∧ w' = X from HC) X hbX
            clear HP2 HAP HPQ HX HK HA HC hq
            by_cases hp9 : q.kind = 9
            · rw [hp9] at cp
              have hno : ¬ noBytes bs := fun h => hap h ⟨hp9, rfl⟩
              clear hap hp9
              generalize k - 1 = kk at *
              go_wp2_with fail
              refine hc.mono ?_
              rintro e w9 ⟨h9 | ⟨_, h9⟩, rfl⟩
              · subst h9
                go_wp2
                go_meet
                exact ⟨rfl, rfl⟩
              · exact absurd h9 hno
            · have hp9' : (q.kind == 9) = false := by simpa using hp9
              clear hap hp9 hc
              generalize q.kind = qk at *
              generalize k - 1 = kk at *
              go_wp2
              go_meet
              exact ⟨rfl, rfl⟩
          · have h9' : (kd == 9) = false := by simpa using h9
            clear HP2 HAP HPQ HX HK HA HC
            go_wp2
            go_meet
            exact ⟨rfl, rfl⟩
      case rest =>
      obtain ⟨rfl, rfl⟩ := hcut
      clear HP2 HAP HPQ HX HK HA HC
      go_wp2
      exact ⟨⟨k + 1, by go_num, by omega, hbX⟩, by simp [intOf]; omega⟩
    · have hki : ¬ (k : Int) < (ts.length : Int) := by omega
      have bw := b02.trans (hb.mono b02.size)
      have hTr := hT2.next hb
      have Tr := T2.next hb
      have h6 := text_any (.slice p2 ts.length cap2) ts wr Tr hTr.2 (by omega) HX
      clear HK HA HC
      go_wp2_with fail
      refine h6.mono ?_
      clear h6
      rintro e w6 ⟨rfl, b6⟩
      have bw6 := bw.trans (b6.mono bw.size)
      have no : ∀ x : Value, x.ownBlock = none ∨ x.ownBlock ≠ none := fun x => by
        cases x.ownBlock with
        | none => exact .inl rfl
        | some j => exact .inr (by simp)
      have b26 := hb.trans (b6.mono hb.size)
      have r6 := r2.kept (⟨b26.os, b26.tape, b26.output, b26.size, fun i hi _ => b26.block i hi⟩ : w2.grownBy w6 none) (no _)
      have hsrc : (Value.slice p2 ts.length cap2 = .slice none 0 0 ∧ ts.length = 0) ∨ ∃ ad c, Value.slice p2 ts.length cap2 = .slice (some ad) ts.length c ∧ ∀ j u, (tksCells ts)[j]? = some u → w6.cell? (ad.add j) = some u := by
        rcases r6.2 with ⟨hv, hm⟩ | ⟨g, cap, cur, hv, hg, hbq, h1, h2, h3, h4⟩
        · exact .inl ⟨hv, hm⟩
        · refine .inr ⟨_, cap, hv, fun j u hj => ?_⟩
          rw [addr_add, cell_of_block hbq, Nat.zero_add]
          rw [← h4, List.getElem?_take] at hj
          split at hj
          · simpa using hj
          · cases hj
      have hone : ∀ u ∈ tksCells ts, u.oneCell' = true := fun u hu => by
        unfold tksCells at hu
        obtain ⟨t, _, ht⟩ := List.mem_flatMap.1 hu
        simp [tkCells] at ht
        rcases ht with rfl | rfl | rfl | rfl | rfl <;> rfl
      generalize hZ : (⟨(wrtL ts).toArray⟩ : ByteArray) = z at *
      go_wp2_with (at_builtin; refine wpList_append_src _ rfl _ _ 24 rfl w6.heap.size 27 i0 (.agg #[.int .i64 0, .string ⟨#[]⟩, .int .i64 0, .bool false, .int .i64 0]) 5 48 Tryd.underlying24 hi hz0 hz1 hz2 rfl (by decide) _ 0 [] rfl (World.ownsRow_nil _ _ _ _) _ ts.length (tksCells ts) rfl (tksCells_length ts) hsrc hone (by unfold maxLen; omega) (by omega) (Nat.le_refl _) ?_; intro v7 w7 hown7 hgrow7; rw [Nat.zero_add, List.nil_append] at hown7)
      have b7 : Below w6.heap.size w6 w7 := (Below.refl _ _).grown hgrow7 (Nat.le_refl _) (fun r e => by cases e)
      have bw7 := bw6.trans (b7.mono bw6.size)
      have h8 := text_any v7 ts w7 (TksAt.of_owns hown7) ((hTr.next b6).next b7).2 (by omega) HX
      rw [hZ] at h8
      clear hZ hown7 hgrow7 hsrc hone r6
      refine h8.mono ?_
      clear h8
      rintro e w8 ⟨rfl, b8⟩
      go_wp2
      go_ret
      exact ⟨rfl, bw7.trans (b8.mono bw7.size)⟩

theorem tokKinds_met (os : Os) : laidMet Tryd.prog Rows.tokKindsRow.laid ((laidIn (World.holding Tryd.prog os ⟨#[], #[], []⟩)).forCall (fun _ _ => 0) ⟨#[], #[.slice none 0 0], []⟩).memory :=
  laidMet_of_run' 8 (by kernel_rfl) (by kernel_rfl)
theorem tokKinds_reads (os : Os) {H : Type} (enc : TypeId × Value → H) : ∃ places, DataW.whole enc Tryd.prog ((laidIn (World.holding Tryd.prog os ⟨#[], #[], []⟩)).forCall (fun _ _ => 0) ⟨#[], #[.slice none 0 0], []⟩).memory Tryd.f3.params.toList Rows.tokKindsSpec.vars false (#[.slice none 0 0] : Array Value).toList 8 = some ([.nil], [], places) :=
  ⟨[], by kernel_rfl⟩

set_option maxRecDepth 100000 in
theorem tokKinds_lifted (os : Os) (started : os.Started) (H : Type) (enc : TypeId × Value → H) (F : Stop.Interp) :
    ReturnsInHanded {} Tryd.checked os 3 .any ((OpenSpec.ofChange Rows.tokKindsSpec).preRow enc Tryd.prog Tryd.f3 Rows.tokKindsRow.domain false Rows.tokKindsRow.laid) (((OpenSpec.ofChange Rows.tokKindsSpec).at F).post enc Tryd.prog Tryd.f3 false true false false) := by
  obtain ⟨places, hx⟩ := tokKinds_reads os enc
  refine returnsInHanded_of_row (C := Tryd.checked) (s := OpenSpec.ofChange Rows.tokKindsSpec) ownNone started (by kernel_rfl) Tryd.func3
    (witness_row_at (enc := enc) (C := Tryd.checked) false (laidIn (World.holding Tryd.prog os ⟨#[], #[], []⟩)) #[.slice none 0 0] rfl (by kernel_rfl) (by kernel_rfl) (by kernel_rfl)
      (OpenSpec.preRow_of_cond 8 hx (by kernel_rfl) (fun k hk => by cases hk) (by kernel_rfl) (tokKinds_met os))) ?_
  intro W base args ds gs before hval hW _ _ _ hL hS _
  have hW' := hW
  obtain ⟨p, q, hA0, hV, rfl, hfz, hnd⟩ := hW
  have hA : DataW.TrodAll enc Tryd.prog W 0 (fun _ => true) true Tryd.f3.params.toList args.toList ds p := hA0
  rw [Tryd.params3] at hA hval
  obtain ⟨v0, vs0, d0, ds0, p0, q0, hargs, rfl, rfl, h0, r0⟩ := trodAll_cons hA
  obtain ⟨rfl, rfl, rfl⟩ := trodAll_nil r0
  obtain rfl : args = #[v0] := by cases args; simp_all
  obtain ⟨rfl, rfl⟩ := trodVars_none hV
  obtain ⟨a0, len0, cap0, rfl⟩ := okWide_slice Tryd.underlying22 (hval 0 22 v0 rfl rfl)
  have k0 := h0
  have lt0 : ∀ x ∈ p0, x.block < W.heap.size := by obtain ⟨m, hm⟩ := k0; exact DataW.trod_lt m _ _ _ hm
  obtain ⟨z0, w0⟩ := bytesAt_of_reads k0
  clear hA0
  refine (tokKinds_walk W (tabs_of_laid hL hS) _ z0 w0).mono fun e W' ⟨he, bel⟩ => ?_
  subst he
  exact ⟨_, rfl, _, _, _, [], _, [], hW', trodAll_mk1 (shut_bool Tryd.underlying4 _), (trodAll_cons_mk (Below.trod laidOut (by kernel_rfl) (of_decide_eq_true (by kernel_rfl)) k0 bel lt0) trodAll_mk0), rfl, bel.frame _, fun h => by cases h⟩

theorem tokKinds_said : Rows.TokKindsSaid :=
  OpenClaim.holds_of_cond 3 Tryd.f3 rfl rfl rfl rfl rfl rfl rfl ⟨rfl, rfl, rfl, rfl, rfl⟩ rfl rfl rfl rfl rfl (by kernel_rfl) Tryd.func3 (by kernel_rfl)
    (of_decide_eq_true (by kernel_rfl)) (by unfold Func.isWrapper; first | (rw [if_pos (by decide +kernel)]; kernel_rfl) | (rw [if_neg (by decide +kernel)]; exact ⟨rfl, rfl⟩))
    (fun os started H enc _ F => by rw [OpenClaim.pre_eq_preRow]; exact tokKinds_lifted os started H enc F)

theorem tokKinds_plain (f : FuncId) (fn : Func) (hf : Tryd.pinned.checked.prog.funcNamed "tapestrier/tapestrierlaw4.TokKinds" = some f) (hfn : Tryd.pinned.checked.prog.funcs[f]? = some fn) :
    false = Tryd.pinned.checked.prog.looks [] ∧ ∀ (j : Nat) t, fn.params[j]? = some t → Tryd.pinned.checked.prog.wantsStandIn t = false := by
  obtain rfl : f = 3 := Option.some.inj ((show Tryd.prog.funcNamed "tapestrier/tapestrierlaw4.TokKinds" = some 3 by kernel_rfl).symm.trans hf) |>.symm
  obtain rfl : fn = Tryd.f3 := (Option.some.inj (Tryd.func3.symm.trans hfn)).symm
  refine ⟨by kernel_rfl, fun j t ht => ?_⟩
  rw [Tryd.params3] at ht
  have hm : t ∈ [22] := by simpa using Array.mem_of_getElem? ht
  have hall : ([22].all fun u => !Tryd.prog.wantsStandIn u) = true := by kernel_rfl
  exact (show Tryd.prog.wantsStandIn t = false by simpa using List.all_eq_true.1 hall t hm)

theorem tokKinds_card : Rows.TokKindsCardSaid :=
  Claim7.holds_tied_plain_at .later [] _ _ _ _ tokKinds_said (fun _ h => by cases h) (by kernel_rfl) (fun _ h => by cases h) tokKinds_row_tie rfl ⟨rfl, rfl⟩ (by kernel_rfl) rfl tokKinds_plain (by kernel_rfl)
#print axioms tokKinds_card

end Go.Proofs.YtlgfmncflnipgaaDoor
