/- The reader of selectors: the iterator over a compound's units. -/
import Derived.Test.YtkhgmobependiaaDoorSlUnt
import Derived.Test.YtkhgmobependiaaDoorSlLaw
namespace Go.Proofs.YtkhgmobependiaaDoor.Sl
open Go.Proofs.YtkhgmobependiaaDoor.Tre
open Go Go.RowKit Go.Shelf
attribute [local go_sem] Oper.semAt_some

theorem Cp.addId_len (c : Cp) (x : ByteArray) : (c.addId x).ids.length = c.ids.length + 1 ∧ (c.addId x).classes.length = c.classes.length ∧ (c.addId x).attrs.length = c.attrs.length ∧ (c.addId x).pss.length = c.pss.length := by cases c; simp [Cp.addId, Cp.ids, Cp.classes, Cp.attrs, Cp.pss]
theorem Cp.addClass_len (c : Cp) (x : ByteArray) : (c.addClass x).ids.length = c.ids.length ∧ (c.addClass x).classes.length = c.classes.length + 1 ∧ (c.addClass x).attrs.length = c.attrs.length ∧ (c.addClass x).pss.length = c.pss.length := by cases c; simp [Cp.addClass, Cp.ids, Cp.classes, Cp.attrs, Cp.pss]
theorem Cp.addAttr_len (c : Cp) (x : At) : (c.addAttr x).ids.length = c.ids.length ∧ (c.addAttr x).classes.length = c.classes.length ∧ (c.addAttr x).attrs.length = c.attrs.length + 1 ∧ (c.addAttr x).pss.length = c.pss.length := by cases c; simp [Cp.addAttr, Cp.ids, Cp.classes, Cp.attrs, Cp.pss]
theorem Cp.addPs_len (c : Cp) (x : Ps) : (c.addPs x).ids.length = c.ids.length ∧ (c.addPs x).classes.length = c.classes.length ∧ (c.addPs x).attrs.length = c.attrs.length ∧ (c.addPs x).pss.length = c.pss.length + 1 := by cases c; simp [Cp.addPs, Cp.ids, Cp.classes, Cp.attrs, Cp.pss]
/-- None of its rows is longer than m. -/
def Small (c : Cp) (m : Nat) : Prop := c.ids.length ≤ m ∧ c.classes.length ≤ m ∧ c.attrs.length ≤ m ∧ c.pss.length ≤ m
theorem unitV_small {L : Inner} {c c' : Cp} {t : Bt} {r r' : List Bt} {m : Nat} (h : unitV L c t r = some (c', r')) (hs : Small c m) : Small c' (m + 1) := by
  obtain ⟨h1, h2, h3, h4⟩ := hs
  unfold unitV at h
  unfold Small
  split at h
  · cases h
    obtain ⟨e1, e2, e3, e4⟩ := Cp.addId_len c t.text
    omega
  · split at h
    · obtain ⟨x, _, e⟩ := Option.map_eq_some_iff.1 h
      cases e
      obtain ⟨e1, e2, e3, e4⟩ := Cp.addAttr_len c x.1
      omega
    · split at h
      · obtain ⟨x, _, e⟩ := Option.map_eq_some_iff.1 h
        cases e
        obtain ⟨e1, e2, e3, e4⟩ := Cp.addPs_len c x.1
        omega
      · split at h
        · rename_i nn _
          split at h
          · cases h
            obtain ⟨e1, e2, e3, e4⟩ := Cp.addClass_len c nn.text
            omega
          · cases h
        · cases h
/-- A block that holds a token. -/
def IsTok (X : World) (b : Nat) : Prop := ∃ cs, Blk X b 58 cs
theorem units_no {L : Inner} {f : Nat} {c : Cp} {ts : List Bt} {a : Nat} (hf : (ts.drop a).length < f) (h : begU (at' ts a) = false) : unitsV L f c (ts.drop a) = some (c, ts.drop a) := by
  obtain ⟨f, rfl⟩ : ∃ g, f = g + 1 := ⟨f - 1, by omega⟩
  by_cases hl : a < ts.length
  · rw [at_cons hl]
    simp only [unitsV, h, Bool.false_eq_true, if_false]
  · rw [List.drop_eq_nil_of_le (by omega)]
    rfl
theorem begU_lt {ts : List Bt} {a : Nat} (h : begU (at' ts a) = true) : a < ts.length := at_lt (fun e => by
  unfold begU isSg at h
  simp [e] at h)
theorem units_yes {L : Inner} {f : Nat} {c : Cp} {ts : List Bt} {a : Nat} (hf : (ts.drop a).length < f) (h : begU (at' ts a) = true) : ∃ g, (ts.drop (a + 1)).length < g ∧ unitsV L f c (ts.drop a) = (unitV L c (at' ts a) (ts.drop (a + 1))).bind fun x => unitsV L g x.1 x.2 := by
  obtain ⟨f, rfl⟩ : ∃ g, f = g + 1 := ⟨f - 1, by omega⟩
  have hl := begU_lt h
  refine ⟨f, ?_, ?_⟩
  · rw [List.length_drop] at hf ⊢
    omega
  · rw [at_cons hl]
    simp only [unitsV, h, if_true]

set_option maxRecDepth 100000 in
set_option maxHeartbeats 4000000 in
theorem units1_in (N l R B n₀ : Nat) (v : Value) (ts : List Bt) (d : Nat) (K : Cp → World → Prop) (Kx : World → Prop) (W : World) (a0 f0 : Nat) (c0 : Cp) (hf0 : (ts.drop a0).length < f0)
    (hP : Rd n₀ W R v ts a0 (8 - (d : Int))) (h0 : K c0 W) (hs0 : Small c0 a0) (hRm : R < W.heap.size)
    (hbox : ∀ c X, K c X → X.cell? ⟨B, 0, none⟩ = some (.pointer (some ⟨R, 0, none⟩)))
    (hK : ∀ c X Y, K c X → Kept (fun b => b ≠ R ∧ ¬ (IsTok X b ∧ W.heap.size ≤ b)) X Y → K c Y)
    (hY : ∀ c a W1, K c W1 → Rd n₀ W1 R v ts (a + 1) (8 - (d : Int)) → begU (at' ts a) = true → Small c a → W.heap.size ≤ W1.heap.size → YieldAt Fence.wide (N - 1) Tryd.prog l #[tkV (at' ts a)] W1 fun e W' =>
      (e = .returned (.bool true) ∧ (∃ c' b, unitV (innerV d) c (at' ts a) (ts.drop (a + 1)) = some (c', ts.drop b) ∧ K c' W' ∧ Rd n₀ W' R v ts b (8 - (d : Int))) ∧ Kept (fun b => IsTok W1 b ∧ W.heap.size ≤ b) W1 W') ∨ (e = .returned (.bool false) ∧ unitV (innerV d) c (at' ts a) (ts.drop (a + 1)) = none ∧ Kx W')) :
    CallsIn Fence.wide N Tryd.prog 50 #[.func (.yield l) #[] #[], .pointer (some ⟨B, 0, none⟩)] W fun e W' => (∃ v, e = .returned v) ∧ ((∃ c' b, unitsV (innerV d) f0 c0 (ts.drop a0) = some (c', ts.drop b) ∧ K c' W' ∧ Rd n₀ W' R v ts b (8 - (d : Int))) ∨ (unitsV (innerV d) f0 c0 (ts.drop a0) = none ∧ Kx W')) := by
  have hlm := hP.most
  have hlow := hP.low
  obtain ⟨V, hV⟩ : ∃ V, unitsV (innerV d) f0 c0 (ts.drop a0) = V := ⟨_, rfl⟩
  rw [hV]
  have hb0 := hbox c0 W h0
  have h1 := ahead_any n₀ R v ts a0 (8 - (d : Int)) W hP
  have HB : Hid (∀ c X, K c X → X.cell? ⟨B, 0, none⟩ = some (.pointer (some ⟨R, 0, none⟩))) := hbox
  have HKb : Hid (∀ c X Y, K c X → Below X.heap.size X Y → K c Y) := fun c X Y h hb => hK c X Y h (.of_below hb)
  have HKr : Hid (∀ c X q, K c X → K c (X.setCell ⟨R, 1, none⟩ q)) := fun c X q h => hK c X _ h (Kept.setCell X _ q (fun h => h.1 rfl))
  have HKt : Hid (∀ c X F q1 q2 q3 q4 q5, K c X → IsTok X F → W.heap.size ≤ F → K c (set5 X F q1 q2 q3 q4 q5)) := fun c X F q1 q2 q3 q4 q5 h hF hm => hK c X _ h (Kept.of_grown (grown_set5 X F q1 q2 q3 q4 q5) (fun k e h => by cases e; exact h.2 ⟨hF, hm⟩))
  have HY : Hid (∀ c a W1, K c W1 → Rd n₀ W1 R v ts (a + 1) (8 - (d : Int)) → begU (at' ts a) = true → Small c a → W.heap.size ≤ W1.heap.size → YieldAt Fence.wide (N - 1) Tryd.prog l #[tkV (at' ts a)] W1 fun e W' =>
      (e = .returned (.bool true) ∧ (∃ c' b, unitV (innerV d) c (at' ts a) (ts.drop (a + 1)) = some (c', ts.drop b) ∧ K c' W' ∧ Rd n₀ W' R v ts b (8 - (d : Int))) ∧ Kept (fun b => IsTok W1 b ∧ W.heap.size ≤ b) W1 W') ∨ (e = .returned (.bool false) ∧ unitV (innerV d) c (at' ts a) (ts.drop (a + 1)) = none ∧ Kx W')) := hY
  clear hbox hK hY
  refine callsIn_of_wp Tryd.func50 rfl trivial ?_ rfl
  simp only [Tryd.ntmps50, List.size_toArray, List.length_cons, List.length_nil, Nat.reduceAdd, Nat.reduceSub, Array.replicate_succ, Array.replicate_zero, List.push_toArray, List.append_toArray, List.nil_append, List.cons_append]
  have hTb : ∀ T : Bt, at' ts a0 = T → Calls Tryd.prog 35 #[.pointer (some ⟨R, 0, none⟩)] W fun e w' => e = .returned (.agg #[.int .i64 T.kind, .string T.text, .int .i64 T.n, .bool T.whole, .int .i64 T.c]) ∧ Below W.heap.size W w' := fun T hT => by rw [← hT]; exact h1
  clear h1
  obtain ⟨T, hT⟩ : ∃ T, at' ts a0 = T := ⟨_, rfl⟩
  have h1 := hTb T hT
  clear hTb
  gi_wp2_with fail
  refine ⟨trivial, fun h => (by cases h), ?_⟩
  refine (callsIn_wide.2 h1).mono ?_
  clear h1
  rintro e w1 ⟨rfl, b1⟩
  obtain ⟨bO, kO⟩ := tok_new w1 T
  have bWO := below_next b1 bO
  have hPO := hP.below bWO
  have hKO := (show ∀ c X Y, _ → _ → _ from HKb) c0 W _ h0 bWO
  have hF1 : W.heap.size ≤ w1.heap.size := b1.size
  gi_wp2
  gi_loopw [3] (fun x wr => ∃ (F : Nat) (T : Bt) (a f : Nat) (c : Cp), x = .pointer (some ⟨F, 0, none⟩) ∧ Blk wr F 58 [.int .i64 T.kind, .string T.text, .int .i64 T.n, .bool T.whole, .int .i64 T.c] ∧ W.heap.size ≤ F ∧ at' ts a = T ∧ (ts.drop a).length < f ∧ Hid (unitsV (innerV d) f c (ts.drop a) = V) ∧ K c wr ∧ Hid (Small c a) ∧ Rd n₀ wr R v ts a (8 - (d : Int)) ∧ W.heap.size ≤ wr.heap.size) (fun _ wr => ts.length - placeOf wr R)
  case atStart => exact ⟨w1.heap.size, T, a0, f0, c0, rfl, kO, hF1, hT, hf0, hV, hKO, hs0, hPO, bWO.size⟩
  case round =>
    clear hV h0 hP hPO hKO kO bO bWO hT hb0 hs0 hf0
    obtain ⟨F, T, a, f, c, rfl, kF, hFm, hT, hf, HV, hKc, HS, hPa, hsz⟩ := hrel
    have hal := hPa.least
    have hPa' := hPa
    have hF := kF.lt
    have hRF : F ≠ R := by omega
    obtain ⟨⟨t0, t1, t2, t3, t4⟩, _⟩ := blk5 kF
    have h2 := beginsUnit_any T wr
    unfold tkV at h2
    gi_wp2_with fail
    refine ⟨trivial, fun h => (by cases h), ?_⟩
    refine (callsIn_wide.2 h2).mono ?_
    clear h2
    rintro e w2 ⟨rfl, b2⟩
    replace kF := kF.below b2 hF
    have hP2 := hPa.below b2
    have hK2 := (show ∀ c X Y, _ → _ → _ from HKb) c wr w2 hKc b2
    have hcb := (show ∀ c X, _ → _ from HB) c w2 hK2
    obtain ⟨⟨t0, t1, t2, t3, t4⟩, _⟩ := blk5 kF
    obtain ⟨⟨p0, p1, p2⟩, g0, g1, g2⟩ := blk3 hP2.blk
    cases hU : begU T with
    | false =>
      have hv := units_no (L := innerV d) (c := c) hf (by rw [hT]; exact hU)
      rw [show _ = V from HV] at hv
      clear HV HY hU HKr HKt
      gi_wp2
      go_end0
      exact ⟨⟨_, rfl⟩, .inl ⟨c, a, hv, hK2, hP2⟩⟩
    | true =>
      have hlt : a < ts.length := begU_lt (by rw [hT]; exact hU)
      obtain ⟨g, hg, hv⟩ := units_yes (L := innerV d) (c := c) hf (by rw [hT]; exact hU)
      rw [show _ = V from HV, hT] at hv
      have HV2 : Hid (V = (unitV (innerV d) c T (ts.drop (a + 1))).bind fun x => unitsV (innerV d) g x.1 x.2) := hv
      have hw : IntKind.i64.wrap ((a : Int) + 1) = (a : Int) + 1 := by rw [IntKind.wrap_i64]; omega
      have hP3 := hP2.set (b := a + 1) (by omega)
      have hK3 := (show ∀ c X q, _ → _ from HKr) c w2 (.int .i64 (a + 1 : Nat)) hK2
      have kF3 := (But.set R w2 1 (.int .i64 (a + 1 : Nat))).blk kF hRF
      have hs3 : W.heap.size ≤ (w2.setCell ⟨R, 1, none⟩ (.int .i64 (a + 1 : Nat))).heap.size := by rw [World.size_setCell]; have := b2.size; omega
      obtain ⟨fn, tmps, assign, body, hyi, hR3⟩ := (show ∀ c a W1, _ → _ → _ → _ → _ → _ from HY) c a _ hK3 hP3 (by rw [hT]; exact hU) HS hs3
      rw [hT] at hyi hR3
      unfold tkV at hyi
      push_cast at hyi hR3 kF3 hK3 hP3
      obtain ⟨⟨u0, u1, u2, u3, u4⟩, _⟩ := blk5 kF3
      clear HV hv hU
      have hle := fun c' b (h : unitV (innerV d) c T (ts.drop (a + 1)) = some (c', ts.drop b)) => unitV_le (innerV_less d) h
      have hsm := fun c' b (h : unitV (innerV d) c T (ts.drop (a + 1)) = some (c', ts.drop b)) => unitV_small (m := a) h HS
      have HLE : Hid (∀ c' b, unitV (innerV d) c T (ts.drop (a + 1)) = some (c', ts.drop b) → (ts.drop b).length ≤ (ts.drop (a + 1)).length) := hle
      have HSM : Hid (∀ c' b, unitV (innerV d) c T (ts.drop (a + 1)) = some (c', ts.drop b) → Small c' (a + 1)) := hsm
      clear hle hsm HS HY hP2 hK2 kF hPa hKc
      gi_wp2_with fail
      refine ⟨fun h => (by cases h), hR3.mono ?_⟩
      clear hR3 hyi
      rintro e w4 (⟨rfl, ⟨c', b, hu, hK4, hP4⟩, hkt⟩ | ⟨rfl, hu, hKx⟩)
      · have hbl := (show ∀ c' b, _ → _ from HLE) c' b hu
        have hsb := (show ∀ c' b, _ → _ from HSM) c' b hu
        rw [hu] at HV2
        have HV3 : Hid (unitsV (innerV d) g c' (ts.drop b) = V) := (show V = _ from HV2).symm
        have hlb := hP4.least
        have hab : a + 1 ≤ b := by
          rw [List.length_drop, List.length_drop] at hbl
          omega
        have hsb2 : Hid (Small c' b) := ⟨Nat.le_trans hsb.1 hab, Nat.le_trans hsb.2.1 hab, Nat.le_trans hsb.2.2.1 hab, Nat.le_trans hsb.2.2.2 hab⟩
        have kF4 := hkt.blk kF3 ⟨⟨_, kF3⟩, hFm⟩
        have hs4 := hkt.size
        rw [World.size_setCell] at hs4
        clear HLE HSM HV2 hu hsb hkt kF3 u0 u1 u2 u3 u4
        obtain ⟨⟨u0, u1, u2, u3, u4⟩, _⟩ := blk5 kF4
        obtain ⟨b5, k5⟩ := tok_new w4 T
        have hP5 := hP4.below b5
        have hK5 := (show ∀ c X Y, _ → _ → _ from HKb) c' w4 _ hK4 b5
        have hcb5 := (show ∀ c X, _ → _ from HB) c' _ hK5
        have h6 := ahead_any n₀ R v ts b (8 - (d : Int)) _ hP5
        obtain ⟨T', hT'⟩ : ∃ T', at' ts b = T' := ⟨_, rfl⟩
        rw [hT'] at h6
        unfold tkV at h6
        have hw4 : W.heap.size ≤ w4.heap.size := by have := b2.size; omega
        have hR4 := hP4.lt
        gi_wp2_with fail
        refine ⟨trivial, fun h => (by cases h), ?_⟩
        refine (callsIn_wide.2 h6).mono ?_
        clear h6
        rintro e w6 ⟨rfl, b6⟩
        have k6 := k5.below b6 k5.lt
        have hP6 := hP5.below b6
        have hK6 := (show ∀ c X Y, _ → _ → _ from HKb) c' _ _ hK5 b6
        have hK7 := (show ∀ c X F q1 q2 q3 q4 q5, _ → _ → _ → _ from HKt) c' w6 w4.heap.size (.int .i64 T'.kind) (.string T'.text) (.int .i64 T'.n) (.bool T'.whole) (.int .i64 T'.c) hK6 ⟨_, k6⟩ hw4
        have hP7 := hP6.other5 (C := w4.heap.size) (by omega) (by omega) (.int .i64 T'.kind) (.string T'.text) (.int .i64 T'.n) (.bool T'.whole) (.int .i64 T'.c)
        have k7 := blk_set5 k6 (.int .i64 T'.kind) (.string T'.text) (.int .i64 T'.n) (.bool T'.whole) (.int .i64 T'.c)
        have hs7 : W.heap.size ≤ (set5 w6 w4.heap.size (.int .i64 T'.kind) (.string T'.text) (.int .i64 T'.n) (.bool T'.whole) (.int .i64 T'.c)).heap.size := by have := k7.lt; omega
        obtain ⟨⟨v0, v1, v2, v3, v4⟩, f0, f1, f2, f3, f4⟩ := blk5 k6
        clear hK4 hP4 hP5 hK5 hK6 k5 kF4 hcb5
        gi_wp2
        go_roundw
        case rel => exact ⟨w4.heap.size, T', b, g, c', rfl, k7, hw4, hT', Nat.lt_of_le_of_lt hbl hg, HV3, hK7, hsb2, hP7, hs7⟩
        case measure =>
          have e1 := hP7.place
          unfold set5 at e1
          rw [e1, hPa'.place]
          omega
      · rw [hu] at HV2
        clear HLE HSM hu
        gi_wp2
        refine bodyPost_ret (results_none rfl _ _ _) rfl ?_
        exact ⟨⟨_, rfl⟩, .inr ⟨show V = _ from HV2, hKx⟩⟩

end Go.Proofs.YtkhgmobependiaaDoor.Sl
