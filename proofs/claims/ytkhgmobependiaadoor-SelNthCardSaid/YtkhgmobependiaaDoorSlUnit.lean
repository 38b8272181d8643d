/- The reader of selectors: what is pulled amid white, operators, names of pseudo-classes, the number of a child. -/
import Derived.Test.YtkhgmobependiaaDoorSlGb
import Derived.Test.YtkhgmobependiaaDoorShelf
namespace Go.Proofs.YtkhgmobependiaaDoor.Sl
open Go.Proofs.YtkhgmobependiaaDoor.Tre
open Go Go.RowKit Go.Shelf

set_option maxRecDepth 100000 in
theorem clone_any (w : World) (s : ByteArray) (hs : s.size ≤ 1000000) :
    Calls Tryd.prog 52 #[.string s] w fun e w' => e = .returned (.string s) ∧ Below w.heap.size w w' := by
  have hc := Tryd.stringslite_Clone s w (by omega)
  go_enter Tryd.func52, Tryd.ntmps52
  go_wp2_with fail
  refine hc.mono ?_
  rintro e w' ⟨rfl, hb⟩
  clear hc
  go_wp2
  go_ret
  exact ⟨rfl, hb⟩

set_option maxRecDepth 100000 in
set_option maxHeartbeats 1000000 in
theorem pullAmid_any (n₀ R : Nat) (v : Value) (ts : List Bt) (a : Nat) (deep : Int) (w : World) (hP : Rd n₀ w R v ts a deep) (kv : Value) (ks : List Int) (hk : IntsAt n₀ w kv ks ∨ IntsAt w.heap.size w kv ks ∧ ∃ g, R < g ∧ g < w.heap.size ∧ ∃ n c, kv = .slice (some ⟨g, 0, none⟩) n c) (hl : ks.length ≤ 1000) (h0 : ks.contains 0 = false) :
    Calls Tryd.prog 57 #[.pointer (some ⟨R, 0, none⟩), kv] w fun e w' => (∃ b, ts.drop b = dropW (ts.drop a) ∧ ((∃ d, ks.contains (at' ts b).kind = true ∧ b < ts.length ∧ ts.drop d = dropW (ts.drop (b + 1)) ∧ e = .returned (.tuple #[tkV (at' ts b), .bool true]) ∧ Rd n₀ w' R v ts d deep) ∨ (∃ d, ks.contains (at' ts b).kind = false ∧ e = .returned (.tuple #[tkV zeroT, .bool false]) ∧ Rd n₀ w' R v ts d deep))) ∧ But R w w' := by
  have hR := hP.lt
  have hlo := hP.low
  have hkw : IntsAt w.heap.size w kv ks := hk.elim (fun h => h.mono (by omega)) (fun h => h.1)
  have hkk : ∀ W', But R w W' → IntsAt W'.heap.size W' kv ks := fun W' hb => by
    rcases hk with h | ⟨h, g, hg1, hg2, n, c, rfl⟩
    · exact (h.below (hb.below (by omega) (fun b hb => by omega))).mono (by have := hb.size; omega)
    · rcases h with h | ⟨bk, off, cap, e, h1, h2, h3, h4⟩
      · exact .inl h
      · cases e
        exact .inr ⟨_, _, _, rfl, h1, h2, Nat.lt_of_lt_of_le hg2 hb.size, fun j u hj => (cell_same (hb.block _ hg2 (by omega))).trans (h4 j u hj)⟩
  have HK : Hid (∀ W', But R w W' → IntsAt W'.heap.size W' kv ks) := hkk
  obtain ⟨pk, ck, rfl⟩ := hkw.len
  clear hkk hk hkw
  have b0 : Below w.heap.size w (w.alloc (.cells #[.int .i64 0, .string ⟨#[]⟩, .int .i64 0, .bool false, .int .i64 0] 58)) := (Below.refl _ _).alloc (Nat.le_refl _) _
  have kZ : Blk (w.alloc (.cells #[.int .i64 0, .string ⟨#[]⟩, .int .i64 0, .bool false, .int .i64 0] 58)) w.heap.size 58 [.int .i64 0, .string ⟨#[]⟩, .int .i64 0, .bool false, .int .i64 0] := Blk.new w 58 _
  have hP0 := hP.below b0
  go_enter Tryd.func57, Tryd.ntmps57
  go_upto_region 1 with fail
  generalize w.alloc (.cells #[.int .i64 0, .string ⟨#[]⟩, .int .i64 0, .bool false, .int .i64 0] 58) = W0 at *
  have h1 := passWhite_any n₀ R v ts a deep W0 hP0
  go_wp2_with fail
  refine h1.mono ?_
  clear h1
  rintro e w1 ⟨b, rfl, hab, hbl, hdb, hP1, hb1⟩
  have hbut1 : But R w w1 := (Kept.of_below b0).trans hb1
  replace kZ := hb1.blk kZ (by omega)
  have h2 := pull_any n₀ R v ts b deep w1 hP1 (.slice pk ks.length ck) ks ((show ∀ _, _ → _ from HK) w1 hbut1) hl h0
  have hal : ks.contains (at' ts b).kind = true → b < ts.length := fun h => at_lt (fun e => by rw [e, h0] at h; cases h)
  clear HK
  cases hB : ks.contains (at' ts b).kind with
  | true =>
    have hlt := hal hB
    rw [hB, if_pos rfl, if_pos rfl] at h2
    have HB : Hid (ks.contains (at' ts b).kind = true) := hB
    clear hal hB
    obtain ⟨T, hT⟩ : ∃ T, at' ts b = T := ⟨_, rfl⟩
    rw [hT] at h2
    unfold tkV at h2
    go_wp2_with fail
    refine h2.mono ?_
    clear h2
    rintro e w2 ⟨rfl, hP2, hb2⟩
    replace kZ := hb2.blk kZ (by omega)
    have hw2 := kZ.lt
    obtain ⟨bO, kO⟩ := tok_new w2 T
    replace kZ := kZ.below bO kZ.lt
    have hP3 := hP2.below bO
    have hb3 : But R w _ := (hbut1.trans hb2).trans (.of_below bO)
    have hR2 := hP2.lt
    go_upto_region 3 with fail
    generalize w2.alloc (.cells #[.int .i64 T.kind, .string T.text, .int .i64 T.n, .bool T.whole, .int .i64 T.c] 58) = w3 at *
    have h4 := passWhite_any n₀ R v ts (b + 1) deep w3 hP3
    go_wp2_with fail
    refine h4.mono ?_
    clear h4
    rintro e w4 ⟨d, rfl, hbd, hdl, hdd, hP4, hb4⟩
    replace kZ := hb4.blk kZ (by omega)
    replace kO := hb4.blk kO (by omega)
    obtain ⟨⟨c0, c1, c2, c3, c4⟩, _⟩ := blk5 kO
    obtain ⟨⟨z0, z1, z2, z3, z4⟩, f0, f1, f2, f3, f4⟩ := blk5 kZ
    go_wp2
    refine bodyPost_ret (results_struct_tmp rfl _ _ w.heap.size _ rfl (load_tk (blk_set5 kZ (.int .i64 T.kind) (.string T.text) (.int .i64 T.n) (.bool T.whole) (.int .i64 T.c)))) rfl ?_
    refine ⟨⟨b, hdb, .inl ⟨d, HB, hlt, hdd, by rw [hT]; rfl, hP4.other5 (by omega) (by omega) _ _ _ _ _⟩⟩, (hb3.trans hb4).fresh5 (Nat.le_refl _) _ _ _ _ _⟩
  | false =>
    rw [hB, if_neg (by simp), if_neg (by simp)] at h2
    have HB : Hid (ks.contains (at' ts b).kind = false) := hB
    clear hal hB
    unfold tkV zeroT at h2
    go_wp2_with fail
    refine h2.mono ?_
    clear h2
    rintro e w2 ⟨rfl, hP2, hb2⟩
    replace kZ := hb2.blk kZ (by omega)
    have hw2 := kZ.lt
    obtain ⟨bO, kO⟩ := tok_new w2 zeroT
    unfold zeroT at bO kO
    replace kZ := kZ.below bO kZ.lt
    have hP3 := hP2.below bO
    have hb3 : But R w _ := (hbut1.trans hb2).trans (.of_below bO)
    have hR2 := hP2.lt
    go_upto_region 3 with fail
    generalize w2.alloc (.cells #[.int .i64 0, .string ⟨#[]⟩, .int .i64 0, .bool false, .int .i64 0] 58) = w3 at *
    have h4 := passWhite_any n₀ R v ts b deep w3 hP3
    go_wp2_with fail
    refine h4.mono ?_
    clear h4
    rintro e w4 ⟨d, rfl, hbd, hdl, hdd, hP4, hb4⟩
    replace kZ := hb4.blk kZ (by omega)
    replace kO := hb4.blk kO (by omega)
    obtain ⟨⟨c0, c1, c2, c3, c4⟩, _⟩ := blk5 kO
    obtain ⟨⟨z0, z1, z2, z3, z4⟩, f0, f1, f2, f3, f4⟩ := blk5 kZ
    go_wp2
    refine bodyPost_ret (results_struct_tmp rfl _ _ w.heap.size _ rfl (load_tk (blk_set5 kZ (.int .i64 0) (.string ⟨#[]⟩) (.int .i64 0) (.bool false) (.int .i64 0)))) rfl ?_
    refine ⟨⟨b, hdb, .inr ⟨d, HB, rfl, hP4.other5 (by omega) (by omega) _ _ _ _ _⟩⟩, (hb3.trans hb4).fresh5 (Nat.le_refl _) _ _ _ _ _⟩

/-! ### operators -/
def opsT : List (Int × Int) := [(126, 2), (124, 3), (94, 4), (36, 5), (42, 6)]
def opCells (r : Int × Int) : List Value := [.int .i64 r.1, .int .i64 r.2]
def opRow : Array Value := (opsT.flatMap opCells).toArray
/-- The table of operators lies as its text says. -/
def OpsAt (n₀ : Nat) (W : World) : Prop := 0 < n₀ ∧ ∃ t fr, W.heap[(0 : Nat)]? = some (.cells opRow t fr)
theorem OpsAt.below {n₀ : Nat} {X Y : World} (h : OpsAt n₀ X) (hb : Below n₀ X Y) : OpsAt n₀ Y := ⟨h.1, h.2.elim fun t h2 => h2.elim fun fr h3 => ⟨t, fr, (hb.block _ h.1).trans h3⟩⟩
theorem OpsAt.mono {n₀ n₁ : Nat} {X : World} (h : OpsAt n₀ X) (hn : n₀ ≤ n₁) : OpsAt n₁ X := ⟨Nat.lt_of_lt_of_le h.1 hn, h.2⟩
theorem infoOps : (Tryd.prog.info? 97).map (·.size) = some 10 := by kernel_rfl
theorem op_at (w : World) : ∀ (k : Nat) (r : Int × Int), opsT[k]? = some r →
    (Instr.index 97 (.agg opRow) (.int .i64 k)).run Tryd.prog w = .ok (.agg (opCells r).toArray) w
  | 0, _, h => by cases h; kernel_rfl
  | 1, _, h => by cases h; kernel_rfl
  | 2, _, h => by cases h; kernel_rfl
  | 3, _, h => by cases h; kernel_rfl
  | 4, _, h => by cases h; kernel_rfl
  | k + 5, _, h => by simp [opsT] at h
def opL : List (Int × Int) → Bt → Option Int
  | [], _ => none
  | (s, o) :: r, T => if isSg T s then some o else opL r T
theorem opL_all (T : Bt) : opL opsT T = opOf T := rfl
theorem opL_step {k : Nat} {r : Int × Int} {T : Bt} (hr : opsT[k]? = some r) : opL (opsT.drop k) T = if isSg T r.1 then some r.2 else opL (opsT.drop (k + 1)) T := by
  obtain ⟨hk, rfl⟩ := List.getElem?_eq_some_iff.1 hr
  rw [List.drop_eq_getElem_cons hk]
  rfl
theorem opL_sign : ∀ {l : List (Int × Int)} {T : Bt} {o : Int}, opL l T = some o → T.kind = 10
  | [], _, _, h => by cases h
  | (s, o) :: r, T, o', h => by
    unfold opL at h
    split at h
    · rename_i g
      exact (of_decide_eq_true g).1
    · exact opL_sign h
theorem opV_sign {ts : List Bt} {a : Nat} {o : Int} (h : opOf (at' ts a) = some o) : opV (ts.drop a) = if isSg (at' ts (a + 1)) 61 then some (o, ts.drop (a + 2)) else none := by
  have hlt : a < ts.length := at_lt (by rw [opL_sign (l := opsT) h]; decide)
  rw [at_cons hlt]
  simp only [opV, h]
  by_cases hl : a + 1 < ts.length
  · rw [at_cons hl]
  · rw [List.drop_eq_nil_of_le (by omega), (at_none (by omega)).2]
    rfl
theorem opV_plain {ts : List Bt} {a : Nat} (h : opOf (at' ts a) = none) : opV (ts.drop a) = if isSg (at' ts a) 61 then some (1, ts.drop (a + 1)) else none := by
  by_cases hl : a < ts.length
  · rw [at_cons hl]
    simp only [opV, h]
  · rw [List.drop_eq_nil_of_le (by omega), (at_none (by omega)).2]
    rfl
theorem sg_lt {ts : List Bt} {a : Nat} {c : Int} (h : isSg (at' ts a) c = true) : a < ts.length := at_lt (by rw [(of_decide_eq_true h).1]; decide)

set_option maxRecDepth 100000 in
set_option maxHeartbeats 2000000 in
theorem operator_any (n₀ R : Nat) (v : Value) (ts : List Bt) (a : Nat) (deep : Int) (w : World) (hP : Rd n₀ w R v ts a deep) (hS : OpsAt n₀ w) :
    Calls Tryd.prog 58 #[.pointer (some ⟨R, 0, none⟩)] w fun e w' => ((∃ o b, opV (ts.drop a) = some (o, ts.drop b) ∧ e = .returned (.tuple #[.int .i64 o, .bool true]) ∧ Rd n₀ w' R v ts b deep) ∨ (opV (ts.drop a) = none ∧ (∃ o, e = .returned (.tuple #[.int .i64 o, .bool false])) ∧ ∃ b, Rd n₀ w' R v ts b deep)) ∧ But R w w' := by
  obtain ⟨hglt, t0, fr0, hrow⟩ := hS
  have hV : opL (opsT.drop 0) (at' ts a) = opOf (at' ts a) := rfl
  go_enter Tryd.func58, Tryd.ntmps58
  go_upto_region 2 with fail
  refine wp_region_lit ?_
  refine wpList_load_row rfl 97 _ rfl 0 rfl t0 opRow fr0 _ hrow Tryd.underlying97 rfl infoOps ?_
  clear hrow
  have hat := op_at
  generalize Value.agg opRow = row at *
  have HA : Hid (∀ (w : World) (k : Nat) (r : Int × Int), opsT[k]? = some r → (Instr.index 97 row (.int .i64 k)).run Tryd.prog w = .ok (.agg (opCells r).toArray) w) := hat
  clear hat
  go_wp2
  go_loopw [4, 8] (fun o i wr => ∃ k : Nat, o = .int .i64 1 ∧ i = .int .i64 k ∧ k ≤ 5 ∧ Hid (opL (opsT.drop k) (at' ts a) = opOf (at' ts a)) ∧ Rd n₀ wr R v ts a deep ∧ But R w wr) (fun _ i _ => 5 - (intOf i).toNat)
  case atStart => exact ⟨0, rfl, rfl, by omega, hV, hP, Kept.refl _ _⟩
  case round =>
    obtain ⟨k, rfl, rfl, hk, HV, hPk, hbk⟩ := hrel
    clear hV hP
    by_cases hlt : k < 5
    · obtain ⟨r, hr⟩ : ∃ r, opsT[k]? = some r := ⟨_, List.getElem?_eq_getElem (show k < opsT.length from hlt)⟩
      have hi := (show ∀ (w : World) (k : Nat) (r : Int × Int), opsT[k]? = some r → (Instr.index 97 row (.int .i64 k)).run Tryd.prog w = .ok (.agg (opCells r).toArray) w from HA) wr k r hr
      have hstep := opL_step (T := at' ts a) hr
      rw [show opL (opsT.drop k) (at' ts a) = opOf (at' ts a) from HV] at hstep
      clear HA HV hr
      obtain ⟨s, o⟩ := r
      simp only [opCells] at hi
      have hki : (k : Int) < 5 := by omega
      have bX : Below wr.heap.size wr (wr.alloc (.cells #[.int .i64 s, .int .i64 o] 96)) := (Below.refl _ _).alloc (Nat.le_refl _) _
      have kX : Blk (wr.alloc (.cells #[.int .i64 s, .int .i64 o] 96)) wr.heap.size 96 [.int .i64 s, .int .i64 o] := Blk.new wr _ _
      have hPx := hPk.below bX
      have hbx : But R w _ := hbk.trans (.of_below bX)
      have hRx := hPk.lt
      go_upto_region 5 with fail
      generalize wr.alloc (.cells #[.int .i64 s, .int .i64 o] 96) = wx at *
      obtain ⟨⟨x0, x1⟩, _⟩ := blk2 kX
      have h1 := passesSign_any n₀ R v ts a deep s wx hPx
      cases hB : isSg (at' ts a) s with
      | true =>
        rw [hB, if_pos rfl] at h1
        rw [hB, if_pos rfl] at hstep
        have hov := opV_sign hstep
        clear hstep hi hB
        go_wp2_with fail
        refine h1.mono ?_
        clear h1
        rintro e w1 ⟨rfl, hP1, hb1⟩
        replace kX := hb1.blk kX (by omega)
        obtain ⟨⟨x0, x1⟩, _⟩ := blk2 kX
        have h2 := passesSign_any n₀ R v ts (a + 1) deep 61 w1 hP1
        cases hC : isSg (at' ts (a + 1)) 61 with
        | true =>
          rw [hC, if_pos rfl] at h2 hov
          clear hC
          go_wp2_with fail
          refine h2.mono ?_
          clear h2
          rintro e w2 ⟨rfl, hP2, hb2⟩
          go_wp2
          go_ret2
          exact ⟨.inl ⟨o, a + 2, hov, rfl, hP2⟩, (hbx.trans hb1).trans hb2⟩
        | false =>
          rw [hC, if_neg (by simp)] at h2 hov
          clear hC
          go_wp2_with fail
          refine h2.mono ?_
          clear h2
          rintro e w2 ⟨rfl, hP2, hb2⟩
          go_wp2
          go_ret2
          exact ⟨.inr ⟨hov, ⟨o, rfl⟩, a + 1, hP2⟩, (hbx.trans hb1).trans hb2⟩
      | false =>
        rw [hB, if_neg (by simp)] at h1
        rw [hB, if_neg (by simp)] at hstep
        have HV' : Hid (opL (opsT.drop (k + 1)) (at' ts a) = opOf (at' ts a)) := hstep.symm
        clear hstep hi hB
        go_wp2_with fail
        refine h1.mono ?_
        clear h1
        rintro e w1 ⟨rfl, hP1, hb1⟩
        go_wp2
        exact ⟨⟨k + 1, rfl, by go_num, by omega, HV', hP1, hbx.trans hb1⟩, by simp [intOf]; omega⟩
    · have hk5 : k = 5 := by omega
      subst hk5
      have hov := opV_plain (ts := ts) (a := a) ((show opL (opsT.drop 5) (at' ts a) = opOf (at' ts a) from HV).symm)
      have h2 := passesSign_any n₀ R v ts a deep 61 wr hPk
      clear HV HA hlt
      cases hC : isSg (at' ts a) 61 with
      | true =>
        rw [hC, if_pos rfl] at h2 hov
        clear hC
        go_wp2_with fail
        refine h2.mono ?_
        clear h2
        rintro e w2 ⟨rfl, hP2, hb2⟩
        go_wp2
        go_ret2
        exact ⟨.inl ⟨1, a + 1, hov, rfl, hP2⟩, hbk.trans hb2⟩
      | false =>
        rw [hC, if_neg (by simp)] at h2 hov
        clear hC
        go_wp2_with fail
        refine h2.mono ?_
        clear h2
        rintro e w2 ⟨rfl, hP2, hb2⟩
        go_wp2
        go_ret2
        exact ⟨.inr ⟨hov, ⟨1, rfl⟩, a, hP2⟩, hbk.trans hb2⟩

/-! ### names of pseudo-classes -/
theorem infoPs : (Tryd.prog.info? 26).map (·.size) = some 4 := by kernel_rfl
theorem load_ps {w : World} {g : Nat} {a b c d : Value} (h : Blk w g 26 [a, b, c, d]) : (loadVar 26 ⟨g, 0, none⟩).run Tryd.prog w = .ok (.agg #[a, b, c, d]) w :=
  run_loadVar_row w g _ 26 #[a, b, c, d] (0, 0) _ h Tryd.underlying26 rfl infoPs
theorem str_is {z : ByteArray} {l : List UInt8} (h : z.data.toList = l) : z = ⟨l.toArray⟩ := by rw [← h]
theorem str_ne {z : ByteArray} {l : List UInt8} (h : ¬ z.data.toList = l) : (z.toList == l) = false := by
  rw [ByteArray.toList_eq, beq_eq_false_iff_ne]
  exact h
theorem ps_new (w : World) : Below w.heap.size w (w.alloc (.cells #[.int .i64 0, .int .i64 0, .int .i64 0, .slice none 0 0] 26)) ∧ Blk (w.alloc (.cells #[.int .i64 0, .int .i64 0, .int .i64 0, .slice none 0 0] 26)) w.heap.size 26 [.int .i64 0, .int .i64 0, .int .i64 0, .slice none 0 0] :=
  ⟨(Below.refl _ _).alloc (Nat.le_refl _) _, Blk.new w 26 _⟩
/-- A pseudo-class as a value. -/
def psV (k a b : Int) (x : Value) : Value := .agg #[.int .i64 k, .int .i64 a, .int .i64 b, x]

set_option maxRecDepth 100000 in
set_option maxHeartbeats 1000000 in
theorem plain_any (z : ByteArray) (w : World) :
    Calls Tryd.prog 59 #[.string z] w fun e w' => e = .returned (.tuple #[psV ((plainV z.data.toList).getD 0) 0 0 (.slice none 0 0), .bool (plainV z.data.toList).isSome]) ∧ Below w.heap.size w w' := by
  obtain ⟨b0, k0⟩ := ps_new w
  obtain ⟨O, hO⟩ : ∃ O, plainV z.data.toList = O := ⟨_, rfl⟩
  rw [hO]
  unfold plainV at hO
  unfold psV
  have HF : Hid (∀ W a b c d, Below w.heap.size w W → w.heap.size < W.heap.size → Below w.heap.size w (set4 W w.heap.size a b c d)) := fun W a b c d h1 h2 => below_grown h1 (grown_set4 _ w.heap.size a b c d) (by omega) (Nat.le_refl _)
  go_enter Tryd.func59, Tryd.ntmps59
  go_upto_region 1 with fail
  generalize w.alloc (.cells #[.int .i64 0, .int .i64 0, .int .i64 0, .slice none 0 0] 26) = W at *
  obtain ⟨⟨c0, c1, c2, c3⟩, f0, f1, f2, f3⟩ := blk4 k0
  have hB := k0.lt
  by_cases g0 : z.data.toList = rootT
  · rw [if_pos g0] at hO
    obtain rfl := str_is g0
    subst hO
    unfold rootT
    clear g0
    go_wp2
    refine bodyPost_ret (results_struct_tmp rfl _ _ w.heap.size _ rfl (load_ps (blk_set4 k0 (.int .i64 1) (.int .i64 0) (.int .i64 0) (.slice none 0 0)))) rfl ?_
    exact ⟨rfl, (show ∀ W a b c d, _ from HF) _ _ _ _ _ b0 hB⟩
  rw [if_neg g0] at hO
  replace g0 := str_ne g0
  unfold rootT at g0
  by_cases g1 : z.data.toList = firstT
  · rw [if_pos g1] at hO
    obtain rfl := str_is g1
    subst hO
    unfold firstT
    clear g1
    go_wp2
    refine bodyPost_ret (results_struct_tmp rfl _ _ w.heap.size _ rfl (load_ps (blk_set4 k0 (.int .i64 2) (.int .i64 0) (.int .i64 0) (.slice none 0 0)))) rfl ?_
    exact ⟨rfl, (show ∀ W a b c d, _ from HF) _ _ _ _ _ b0 hB⟩
  rw [if_neg g1] at hO
  replace g1 := str_ne g1
  unfold firstT at g1
  by_cases g2 : z.data.toList = lastT
  · rw [if_pos g2] at hO
    obtain rfl := str_is g2
    subst hO
    unfold lastT
    clear g2
    go_wp2
    refine bodyPost_ret (results_struct_tmp rfl _ _ w.heap.size _ rfl (load_ps (blk_set4 k0 (.int .i64 3) (.int .i64 0) (.int .i64 0) (.slice none 0 0)))) rfl ?_
    exact ⟨rfl, (show ∀ W a b c d, _ from HF) _ _ _ _ _ b0 hB⟩
  rw [if_neg g2] at hO
  replace g2 := str_ne g2
  unfold lastT at g2
  by_cases g3 : z.data.toList = onlyT
  · rw [if_pos g3] at hO
    obtain rfl := str_is g3
    subst hO
    unfold onlyT
    clear g3
    go_wp2
    refine bodyPost_ret (results_struct_tmp rfl _ _ w.heap.size _ rfl (load_ps (blk_set4 k0 (.int .i64 4) (.int .i64 0) (.int .i64 0) (.slice none 0 0)))) rfl ?_
    exact ⟨rfl, (show ∀ W a b c d, _ from HF) _ _ _ _ _ b0 hB⟩
  rw [if_neg g3] at hO
  replace g3 := str_ne g3
  unfold onlyT at g3
  by_cases g4 : z.data.toList = emptyT
  · rw [if_pos g4] at hO
    obtain rfl := str_is g4
    subst hO
    unfold emptyT
    clear g4
    go_wp2
    refine bodyPost_ret (results_struct_tmp rfl _ _ w.heap.size _ rfl (load_ps (blk_set4 k0 (.int .i64 5) (.int .i64 0) (.int .i64 0) (.slice none 0 0)))) rfl ?_
    exact ⟨rfl, (show ∀ W a b c d, _ from HF) _ _ _ _ _ b0 hB⟩
  rw [if_neg g4] at hO
  replace g4 := str_ne g4
  unfold emptyT at g4
  subst hO
  go_wp2
  refine bodyPost_ret (results_struct_tmp rfl _ _ w.heap.size _ rfl (load_ps (blk_set4 k0 (.int .i64 0) (.int .i64 0) (.int .i64 0) (.slice none 0 0)))) rfl ?_
  exact ⟨rfl, (show ∀ W a b c d, _ from HF) _ _ _ _ _ b0 hB⟩

theorem Rd.other4 {n₀ : Nat} {W : World} {R : Nat} {v : Value} {ts : List Bt} {a : Nat} {deep : Int} (h : Rd n₀ W R v ts a deep) {C : Nat} (hne : C ≠ R) (hn : n₀ ≤ C) (x y z u : Value) : Rd n₀ (set4 W C x y z u) R v ts a deep := (((h.other hne hn x).other hne hn y).other hne hn z).other hne hn u
theorem Rd.other3 {n₀ : Nat} {W : World} {R : Nat} {v : Value} {ts : List Bt} {a : Nat} {deep : Int} (h : Rd n₀ W R v ts a deep) {C : Nat} (hne : C ≠ R) (hn : n₀ ≤ C) (x y z : Value) : Rd n₀ (set3 W C x y z) R v ts a deep := ((h.other hne hn x).other hne hn y).other hne hn z
theorem Kept.fresh4 {keep : Nat → Prop} {w W : World} (h : Kept keep w W) {C : Nat} (hC : w.heap.size ≤ C) (x y z u : Value) : Kept keep w (set4 W C x y z u) := (((h.fresh hC x).fresh hC y).fresh hC z).fresh hC u
theorem Kept.fresh3 {keep : Nat → Prop} {w W : World} (h : Kept keep w W) {C : Nat} (hC : w.heap.size ≤ C) (x y z : Value) : Kept keep w (set3 W C x y z) := ((h.fresh hC x).fresh hC y).fresh hC z
theorem Rd.drew {n₀ : Nat} {W : World} {R : Nat} {v : Value} {ts : List Bt} {a : Nat} {deep : Int} (h : Rd n₀ W R v ts a deep) : Rd n₀ W.drew R v ts a deep := h.below ⟨rfl, rfl, rfl, Nat.le_refl _, fun _ _ => rfl⟩
theorem tdiv_wrap {n : Int} (h1 : -9223372036854775808 ≤ n) (h2 : n ≤ 9223372036854775807) : IntKind.i64.wrap (n.tdiv 1000) = n.tdiv 1000 := by
  have h3 : (n.tdiv 1000).natAbs = n.natAbs / 1000 := Int.natAbs_tdiv n 1000
  have h4 : n.natAbs / 1000 ≤ 9223372036854776 := by omega
  rw [← h3] at h4
  clear h3
  generalize n.tdiv 1000 = y at *
  rw [IntKind.wrap_i64]
  omega
/-- White between: [1, 6] and the like, laid ahead of a call. -/
theorem ints_amid (W : World) (R : Nat) (l : List Int) (hl : l.length ≤ 1000) (hR : R < W.heap.size) (n₀ : Nat) : IntsAt n₀ (W.alloc (.cells (l.map (Value.int .i64)).toArray 3)) (.slice (some ⟨W.heap.size, 0, none⟩) l.length l.length) l ∨ IntsAt (W.alloc (.cells (l.map (Value.int .i64)).toArray 3)).heap.size (W.alloc (.cells (l.map (Value.int .i64)).toArray 3)) (.slice (some ⟨W.heap.size, 0, none⟩) l.length l.length) l ∧ ∃ g, R < g ∧ g < (W.alloc (.cells (l.map (Value.int .i64)).toArray 3)).heap.size ∧ ∃ n c, (Value.slice (some ⟨W.heap.size, 0, none⟩) l.length l.length) = .slice (some ⟨g, 0, none⟩) n c :=
  .inr ⟨by rw [World.size_alloc]; exact ints_new W l _ (by omega), W.heap.size, hR, by rw [World.size_alloc]; omega, _, _, rfl⟩

end Go.Proofs.YtkhgmobependiaaDoor.Sl
