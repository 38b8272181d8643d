/- The reader of selectors: the iterator over what stands between compounds. -/
import Derived.Test.YtlcedbjlcjnkfabDoorSlUs
namespace Go.Proofs.YtlcedbjlcjnkfabDoor.Sl
open Go Go.RowKit Go.Shelf
attribute [local go_sem] Oper.semAt_some

theorem parts_none {L : Inner} {f : Nat} {cb : Int} {pre : List Pt} {r : List Bt} (h : compV L r = none) : partsV L f cb pre r = none := by
  cases f with
  | zero => rfl
  | succ f => simp only [partsV, h, Option.bind_none]
theorem parts_more {L : Inner} {f : Nat} {cb cb' : Int} {pre : List Pt} {ts : List Bt} {a b b' : Nat} {c : Cp} (hf : (ts.drop a).length < f) (h : compV L (ts.drop a) = some (c, ts.drop b)) (h2 : betwV (ts.drop b) = some (cb', ts.drop b')) : ∃ g, (ts.drop b').length < g ∧ partsV L f cb pre (ts.drop a) = partsV L g cb' (pre ++ [(cb, c)]) (ts.drop b') := by
  obtain ⟨f, rfl⟩ : ∃ g, f = g + 1 := ⟨f - 1, by omega⟩
  have h3 := compV_lt h
  have h4 := betwV_le h2
  refine ⟨f, ?_, ?_⟩
  · simp only at h3 h4
    omega
  · simp only [partsV, h, Option.bind_some, h2]
theorem parts_end {L : Inner} {f : Nat} {cb : Int} {pre : List Pt} {ts : List Bt} {a b b' : Nat} {c : Cp} (hf : (ts.drop a).length < f) (h : compV L (ts.drop a) = some (c, ts.drop b)) (h2 : betwV (ts.drop b) = none) (h3 : ts.drop b' = dropW (ts.drop b)) : partsV L f cb pre (ts.drop a) = some (pre ++ [(cb, c)], ts.drop b') := by
  obtain ⟨f, rfl⟩ : ∃ g, f = g + 1 := ⟨f - 1, by omega⟩
  simp only [partsV, h, Option.bind_some, h2, h3]

set_option maxRecDepth 100000 in
set_option maxHeartbeats 4000000 in
theorem combs1_in (N l R B n₀ : Nat) (v : Value) (ts : List Bt) (d : Nat) (K : List Pt → World → Prop) (Kx : World → Prop) (W : World) (a0 : Nat)
    (hP : Rd n₀ W R v ts a0 (8 - (d : Int))) (h0 : K [] W)
    (hbox : ∀ c X, K c X → X.cell? ⟨B, 0, none⟩ = some (.pointer (some ⟨R, 0, none⟩)))
    (hK : ∀ c X Y, K c X → But R X Y → K c Y)
    (hY : ∀ pre cb a W1, K pre W1 → Rd n₀ W1 R v ts a (8 - (d : Int)) → pre.length ≤ a → W.heap.size ≤ W1.heap.size → YieldAt Fence.wide (N - 1) Tryd.prog l #[.int .i64 cb] W1 fun e W' =>
      (e = .returned (.bool true) ∧ (∃ c b, compV (innerV d) (ts.drop a) = some (c, ts.drop b) ∧ K (pre ++ [(cb, c)]) W' ∧ Rd n₀ W' R v ts b (8 - (d : Int))) ∧ W.heap.size ≤ W'.heap.size) ∨ (e = .returned (.bool false) ∧ compV (innerV d) (ts.drop a) = none ∧ Kx W')) :
    CallsIn Fence.wide N Tryd.prog 35 #[.func (.yield l) #[] #[], .pointer (some ⟨B, 0, none⟩)] W fun e W' => (∃ v, e = .returned v) ∧ ((∃ ps b, selV (innerV d) (ts.drop a0) = some (ps, ts.drop b) ∧ K ps W' ∧ Rd n₀ W' R v ts b (8 - (d : Int))) ∨ (selV (innerV d) (ts.drop a0) = none ∧ Kx W')) := by
  have hlm := hP.most
  obtain ⟨V, hV⟩ : ∃ V, selV (innerV d) (ts.drop a0) = V := ⟨_, rfl⟩
  rw [hV]
  have hb0 := hbox [] W h0
  have h1 := passWhite_any n₀ R v ts a0 (8 - (d : Int)) W hP
  have HB : Hid (∀ c X, K c X → X.cell? ⟨B, 0, none⟩ = some (.pointer (some ⟨R, 0, none⟩))) := hbox
  have HK : Hid (∀ c X Y, K c X → But R X Y → K c Y) := hK
  have HY : Hid (∀ pre cb a W1, K pre W1 → Rd n₀ W1 R v ts a (8 - (d : Int)) → pre.length ≤ a → W.heap.size ≤ W1.heap.size → YieldAt Fence.wide (N - 1) Tryd.prog l #[.int .i64 cb] W1 fun e W' =>
      (e = .returned (.bool true) ∧ (∃ c b, compV (innerV d) (ts.drop a) = some (c, ts.drop b) ∧ K (pre ++ [(cb, c)]) W' ∧ Rd n₀ W' R v ts b (8 - (d : Int))) ∧ W.heap.size ≤ W'.heap.size) ∨ (e = .returned (.bool false) ∧ compV (innerV d) (ts.drop a) = none ∧ Kx W')) := hY
  clear hbox hK hY
  refine callsIn_of_wp Tryd.func35 rfl trivial ?_ rfl
  simp only [Tryd.ntmps35, List.size_toArray, List.length_cons, List.length_nil, Nat.reduceAdd, Nat.reduceSub, Array.replicate_succ, Array.replicate_zero, List.push_toArray, List.append_toArray, List.nil_append, List.cons_append]
  gi_wp2_with fail
  refine ⟨trivial, fun h => (by cases h), ?_⟩
  refine (callsIn_wide.2 h1).mono ?_
  clear h1
  rintro e w1 ⟨b1, rfl, hab, hbl, hd1, hP1, hb1⟩
  have hK1 := (show ∀ c X Y, _ → _ → _ from HK) [] W w1 h0 hb1
  have hs1 := hb1.size
  have hfu : (ts.drop b1).length < (ts.drop a0).length + 1 := by rw [List.length_drop, List.length_drop]; omega
  have HV1 : Hid (partsV (innerV d) ((ts.drop a0).length + 1) 0 [] (ts.drop b1) = V) := by
    unfold Hid
    rw [hd1, ← hV]
    rfl
  clear hV hd1
  gi_wp2
  gi_loopw [3, 4] (fun x y wr => (∃ (cb : Int) (a f : Nat) (pre : List Pt), x = .int .i64 cb ∧ y = .bool true ∧ (ts.drop a).length < f ∧ Hid (partsV (innerV d) f cb pre (ts.drop a) = V) ∧ K pre wr ∧ pre.length ≤ a ∧ Rd n₀ wr R v ts a (8 - (d : Int)) ∧ W.heap.size ≤ wr.heap.size) ∨ (∃ (ps : List Pt) (b : Nat), x = .int .i64 0 ∧ y = .bool false ∧ Hid (V = some (ps, ts.drop b)) ∧ K ps wr ∧ Rd n₀ wr R v ts b (8 - (d : Int)))) (fun _ y wr => match y with | .bool true => ts.length + 1 - placeOf wr R | _ => 0)
  case atStart => exact .inl ⟨0, b1, _, [], rfl, rfl, hfu, HV1, hK1, Nat.zero_le _, hP1, hs1⟩
  case round =>
    clear hK1 hP1 HV1 hP h0 hb0 hb1
    rcases hrel with ⟨cb, a, f, pre, rfl, rfl, hf, HV, hKc, hpl, hPa, hsz⟩ | ⟨ps, b, rfl, rfl, HV, hKc, hPb⟩
    · have hal := hPa.least
      obtain ⟨fn, tmps, assign, body, hyi, hR3⟩ := (show ∀ pre cb a W1, _ → _ → _ → _ → _ from HY) pre cb a _ hKc hPa hpl hsz
      gi_wp2_with fail
      refine ⟨fun h => (by cases h), hR3.mono ?_⟩
      clear hR3 hyi
      rintro e w4 (⟨rfl, ⟨c, b, hcv, hK4, hP4⟩, hs4⟩ | ⟨rfl, hcv, hKx⟩)
      · have hc4 := (show ∀ c X, _ → _ from HB) _ w4 hK4
        have h5 := combinator_any n₀ R v ts b (8 - (d : Int)) w4 hP4
        have hlb := hP4.least
        have hlt := compV_lt hcv
        simp only [List.length_drop] at hlt
        gi_wp2_with fail
        refine ⟨trivial, fun h => (by cases h), ?_⟩
        refine (callsIn_wide.2 h5).mono ?_
        clear h5
        rintro e w5 ⟨hcs, hb5⟩
        have hK5 := (show ∀ c X Y, _ → _ → _ from HK) _ w4 w5 hK4 hb5
        have hs5 := hb5.size
        rcases hcs with ⟨cb', b', hbw, rfl, hP5⟩ | ⟨hbw, rfl, b', hdd, hP5⟩
        · obtain ⟨g, hg, hv⟩ := parts_more (cb := cb) (pre := pre) hf hcv hbw
          have hle := betwV_le hbw
          have hlb' := hP5.least
          simp only [List.length_drop] at hle
          rw [show _ = V from HV] at hv
          have HV' : Hid (partsV (innerV d) g cb' (pre ++ [(cb, c)]) (ts.drop b') = V) := hv.symm
          have hpl' : (pre ++ [(cb, c)]).length ≤ b' := by rw [List.length_append]; simp; omega
          clear HV hv hcv hbw
          gi_wp2
          go_roundw
          case rel => exact .inl ⟨cb', b', g, pre ++ [(cb, c)], rfl, rfl, hg, HV', hK5, hpl', hP5, by omega⟩
          case measure =>
            show ts.length + 1 - placeOf _ R < ts.length + 1 - placeOf _ R
            rw [hP5.place, hPa.place]
            omega
        · have hv := parts_end (cb := cb) (pre := pre) hf hcv hbw hdd
          rw [show _ = V from HV] at hv
          have HV' : Hid (V = some (pre ++ [(cb, c)], ts.drop b')) := hv
          clear HV hv hcv hbw
          gi_wp2
          go_roundw
          case rel => exact .inr ⟨_, b', rfl, rfl, HV', hK5, hP5⟩
          case measure =>
            show 0 < ts.length + 1 - placeOf _ R
            rw [hPa.place]
            omega
      · have hv := parts_none (f := f) (cb := cb) (pre := pre) hcv
        rw [show _ = V from HV] at hv
        have HV' : Hid (V = none) := hv
        clear HV hv hcv
        gi_wp2
        refine bodyPost_ret (results_none rfl _ _ _) rfl ?_
        exact ⟨⟨_, rfl⟩, .inr ⟨HV', hKx⟩⟩
    · gi_wp2
      go_end0
      exact ⟨⟨_, rfl⟩, .inl ⟨ps, b, HV, hKc, hPb⟩⟩

end Go.Proofs.YtlcedbjlcjnkfabDoor.Sl
