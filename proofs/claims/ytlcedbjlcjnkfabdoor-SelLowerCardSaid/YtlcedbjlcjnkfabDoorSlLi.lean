/- The reader of selectors: a list, and sel.Parse at every slice of tokens. -/
import Derived.Test.YtlcedbjlcjnkfabDoorSlSel
namespace Go.Proofs.YtlcedbjlcjnkfabDoor.Sl
open Go Go.RowKit Go.Shelf

theorem list_none {L : Inner} {f : Nat} {pre : List Sel} {r : List Bt} (h : selV L r = none) : listF L f pre r = none := by
  cases f with
  | zero => rfl
  | succ f => simp only [listF, h, Option.bind_none]
theorem list_more {L : Inner} {f : Nat} {pre : List Sel} {ts : List Bt} {a b : Nat} {s : Sel} (hf : (ts.drop a).length < f) (h : selV L (ts.drop a) = some (s, ts.drop b)) (h2 : (at' ts b).kind = 13) : ∃ g, (ts.drop (b + 1)).length < g ∧ listF L f pre (ts.drop a) = listF L g (pre ++ [s]) (ts.drop (b + 1)) := by
  obtain ⟨f, rfl⟩ : ∃ g, f = g + 1 := ⟨f - 1, by omega⟩
  have h3 := selV_lt h
  have hl : b < ts.length := at_lt (by rw [h2]; decide)
  refine ⟨f, ?_, ?_⟩
  · simp only [List.length_drop] at h3 hf ⊢
    omega
  · simp only [listF, h, Option.bind_some]
    rw [at_cons hl]
    simp only [if_pos h2]
theorem list_end {L : Inner} {f : Nat} {pre : List Sel} {ts : List Bt} {a b : Nat} {s : Sel} (hf : (ts.drop a).length < f) (h : selV L (ts.drop a) = some (s, ts.drop b)) (h2 : ¬ (at' ts b).kind = 13) : listF L f pre (ts.drop a) = some (pre ++ [s], ts.drop b) := by
  obtain ⟨f, rfl⟩ : ∃ g, f = g + 1 := ⟨f - 1, by omega⟩
  simp only [listF, h, Option.bind_some]
  by_cases hl : b < ts.length
  · rw [at_cons hl]
    simp only [if_neg h2]
  · rw [List.drop_eq_nil_of_le (by omega)]
def SlTd (d : Nat) (P : Nat → Prop) (W : World) (c : List Value) (s : Sel) : Prop := SlT (SelsAt d P W) P W c s
theorem slT_stays (d : Nat) : Stays (SlTd d) := fun _ _ _ _ _ _ ⟨x, e, h⟩ f => ⟨x, e, PtsF.fr h f (fun _ _ hx => SelsAt.fr d hx f)⟩
def OffL (n : Nat) (v : Value) (b : Nat) : Prop := n ≤ b ∧ v.ownBlock ≠ some b
theorem infoSl3 : (Tryd.prog.info? 32).map (fun i => (i.zero, i.size, i.bytes)) = some (some (.agg #[.slice none 0 0]), 1, 24) := by kernel_rfl

set_option maxRecDepth 100000 in
set_option maxHeartbeats 4000000 in
theorem list_any (n₀ d : Nat) (hd : d ≤ 8) (hL : ∀ d', d = d' + 1 → ListOK n₀ d') : ListOK n₀ d := by
  intro R v ts a0 w hP hS hG
  have hR := hP.lt
  have hlo := hP.low
  have hlm := hP.most
  obtain ⟨i0, hi, hz0, hz1, hz2⟩ := info_parts infoSl3
  obtain ⟨V, hV⟩ : ∃ V, listV d (ts.drop a0) = V := ⟨_, rfl⟩
  rw [hV]
  rw [listV_eq] at hV
  have HS : Hid (∀ X a, But R w X → Rd n₀ X R v ts a (8 - (d : Int)) → Calls Tryd.prog 11 #[.pointer (some ⟨R, 0, none⟩)] X (SelOut n₀ R v ts d X (selV (innerV d) (ts.drop a)))) := fun X a hX hr => selector_any n₀ R v ts a d X hr (hS.kept hX hlo hR) hG hd hL
  clear hL
  go_enter Tryd.func7, Tryd.ntmps7
  go_wp2
  go_loopw [4, 5] (fun x y wr => (∃ (a f : Nat) (pre : List Sel) (out : Value), x = out ∧ y = .bool true ∧ (ts.drop a).length < f ∧ Hid (listF (innerV d) f pre (ts.drop a) = V) ∧ UndRow 32 1 (SlTd d) w.heap.size (OffL w.heap.size out) wr out pre ∧ pre.length ≤ a ∧ Rd n₀ wr R v ts a (8 - (d : Int)) ∧ But R w wr) ∨ (∃ (l : List Sel) (b : Nat) (out : Value), x = out ∧ y = .bool false ∧ Hid (V = some (l, ts.drop b)) ∧ UndRow 32 1 (SlTd d) w.heap.size (OffL w.heap.size out) wr out l ∧ Rd n₀ wr R v ts b (8 - (d : Int)) ∧ But R w wr)) (fun _ y wr => match y with | .bool true => ts.length + 1 - placeOf wr R | _ => 0)
  case atStart => exact .inl ⟨a0, _, [], _, rfl, rfl, Nat.lt_succ_self _, hV, UndRow.nil _ _ _ _ _ _, Nat.zero_le _, hP, Kept.refl _ _⟩
  case round =>
    clear hP hV hS
    rcases hrel with ⟨a, f, pre, out, rfl, rfl, hf, HV, hU, hpl, hPa, hbw⟩ | ⟨l, b, out, rfl, rfl, HV, hU, hPb, hbw⟩
    · have hal := hPa.least
      have hsw := hbw.size
      have h1 := (show ∀ X a, _ → _ → _ from HS) wr a hbw hPa
      generalize hSV : selV (innerV d) (ts.drop a) = SV at *
      obtain ⟨qo, co, rfl⟩ := hU.form
      go_wp2_with fail
      refine h1.mono ?_
      clear h1
      rintro e w1 ⟨hcs, hb1⟩
      have hb1w := hbw.trans hb1
      have hs1 := hb1.size
      have hR1 := hPa.lt
      rcases hcs with ⟨s, b, x, rfl, rfl, hx, hP1⟩ | ⟨rfl, rfl, b, hP1⟩
      · have hlt := selV_lt hSV
        have hlb := hP1.least
        simp only [List.length_drop] at hlt
        obtain ⟨qx, cx, rfl, _⟩ := FinRow.form hx
        have hfr1 : Fr (OffL w.heap.size (.slice qo pre.length co)) (OffL w.heap.size (.slice qo pre.length co)) wr w1 := Fr.of_kept hb1 (fun b hb _ => ⟨by have := hb.1; omega, hb⟩)
        have hU1 := hU.kept (slT_stays d) hfr1 (fun g hg => hb1.block g (hU.lt hg).2 (by have := (hU.lt hg).1; omega))
        have hg1 : ∀ g, (Value.slice qo pre.length co).ownBlock = some g → g < wr.heap.size := fun g hg => (hU.lt hg).2
        have b2 : Below w1.heap.size w1 (w1.alloc (.cells #[.slice qx s.length cx] 32)) := (Below.refl _ _).alloc (Nat.le_refl _) _
        have k2 : Blk (w1.alloc (.cells #[.slice qx s.length cx] 32)) w1.heap.size 32 [.slice qx s.length cx] := Blk.new w1 _ _
        go_upto_region 8 with fail
        generalize w1.alloc (.cells #[.slice qx s.length cx] 32) = w2 at *
        have c2 := (blk1 k2).1
        have b3 : Below w2.heap.size w2 (w2.alloc (.cells #[.slice qx s.length cx] 32)) := (Below.refl _ _).alloc (Nat.le_refl _) _
        have b13 := below_next b2 b3
        have hU3 := hU1.kept (slT_stays d) (Fr.of_below (P' := OffL w.heap.size (.slice qo pre.length co)) b13 (fun _ h _ => h)) (fun g hg => b13.block g (by have := hg1 g hg; omega))
        obtain ⟨css, r1, r2, r3, r4⟩ := hU3
        have hs3 : w1.heap.size ≤ (w2.alloc (.cells #[.slice qx s.length cx] 32)).heap.size := b13.size
        go_wp2_with (at_builtin; refine wpList_append_own_at _ rfl _ _ 25 rfl w.heap.size 32 i0 (.agg #[.slice none 0 0]) 1 24 Tryd.underlying25 hi hz0 hz1 hz2 rfl (by decide) (.slice qo pre.length co) _ _ rfl r1 ⟨w2.heap.size, 0, none⟩ 1 1 [.slice qx s.length cx] rfl rfl (cells_plain w2 [.slice qx s.length cx] _) (fun u hu => by simp at hu; subst hu; rfl) (by unfold maxLen; omega) (by omega) (by omega) ?_; intro v' w4 hown4 hgrow4 hnil4 hat4; obtain ⟨q4, c4, rfl⟩ := owns_form hown4)
        have hat : ∀ g, (Value.slice q4 (pre.length + 1) c4).ownBlock = some g → (Value.slice qo pre.length co).ownBlock = some g ∨ (w2.alloc (.cells #[.slice qx s.length cx] 32)).heap.size ≤ g := fun g hg => hat4.elim (fun h => .inl (by rw [← h]; exact hg)) (fun h => .inr (by rw [h] at hg; injection hg with hg; omega))
        have hsz4 := hgrow4.size
        have f1 : Fr (OffL w.heap.size (.slice qo pre.length co)) (OffL w.heap.size (.slice q4 (pre.length + 1) c4)) (w2.alloc (.cells #[.slice qx s.length cx] 32)) w4 := ⟨hsz4, fun g hg hl => ⟨hgrow4.block g hl.lt (fun e => hg.2 e.symm), hg.1, fun e => (hat g e).elim hg.2 (fun h => by have := hl.lt; omega)⟩⟩
        have f2 : Fr (fun b => wr.heap.size ≤ b) (OffL w.heap.size (.slice q4 (pre.length + 1) c4)) (w2.alloc (.cells #[.slice qx s.length cx] 32)) w4 := ⟨hsz4, fun g hg hl => ⟨hgrow4.block g hl.lt (fun e => by have := hg1 g e.symm; omega), by omega, fun e => (hat g e).elim (fun e => by have := hg1 g e; omega) (fun h => by have := hl.lt; omega)⟩⟩
        have f0 : Fr (fun b => wr.heap.size ≤ b) (fun b => wr.heap.size ≤ b) w1 (w2.alloc (.cells #[.slice qx s.length cx] 32)) := Fr.of_below b13 (fun _ h _ => h)
        have hxE := PtsF.fr (PtsF.fr hx f0 (fun _ _ h => SelsAt.fr d h f0)) f2 (fun _ _ h => SelsAt.fr d h f2)
        have hU4 : UndRow 32 1 (SlTd d) w.heap.size (OffL w.heap.size (.slice q4 (pre.length + 1) c4)) w4 (.slice q4 (pre.length + 1) c4) (pre ++ [s]) := und_push (slT_stays d) r2 r3 r4 rfl ⟨_, rfl, hxE⟩ f1 hown4
        have hk4 : But R w w4 := (hb1w.trans (.of_below b13)).grown hgrow4 (fun g e => .inl (by have := owns_lt r1 e; omega))
        have hP4 := (hP1.below b13).kept (keep := fun b => b ≤ R) (Kept.of_grown hgrow4 (fun g e h => by have := (owns_lt r1 e).1; omega)) (Nat.le_refl _) (fun b hb => by omega)
        clear hU1 r1 r2 r3 r4 hown4 hgrow4 hat hat4 hnil4 hx hxE f0 f1 f2 hfr1 hg1 c2 k2 b2 b3 b13 hs3 hP1 hb1 hU
        have h5 := passes_any n₀ R v ts b (8 - (d : Int)) 13 w4 hP4 (by decide)
        by_cases h13 : (at' ts b).kind = 13
        · obtain ⟨g, hg, hv⟩ := list_more (pre := pre) hf hSV h13
          have hbl : b < ts.length := at_lt (by rw [h13]; decide)
          rw [decide_eq_true h13, if_pos h13] at h5
          rw [show _ = V from HV] at hv
          have HV' : Hid (listF (innerV d) g (pre ++ [s]) (ts.drop (b + 1)) = V) := hv.symm
          clear HV hv hSV h13
          go_wp2_with fail
          refine h5.mono ?_
          clear h5
          rintro e w5 ⟨rfl, hP5, hb5⟩
          have hU5 := hU4.kept (slT_stays d) (Fr.of_kept (P' := OffL w.heap.size (.slice q4 (pre.length + 1) c4)) hb5 (fun g hg _ => ⟨by have := hg.1; omega, hg⟩)) (fun g hg => hb5.block g (hU4.lt hg).2 (by have := (hU4.lt hg).1; omega))
          have hpl5 : (pre ++ [s]).length ≤ b + 1 := by rw [List.length_append]; simp; omega
          go_wp2
          refine ⟨.inl ⟨b + 1, g, pre ++ [s], _, rfl, rfl, hg, HV', hU5, hpl5, hP5, hk4.trans hb5⟩, ?_⟩
          show ts.length + 1 - placeOf _ R < ts.length + 1 - placeOf _ R
          rw [hP5.place, hPa.place]
          omega
        · have hv := list_end (pre := pre) hf hSV h13
          rw [decide_eq_false h13, if_neg h13] at h5
          rw [show _ = V from HV] at hv
          have HV' : Hid (V = some (pre ++ [s], ts.drop b)) := hv
          clear HV hv hSV h13
          go_wp2_with fail
          refine h5.mono ?_
          clear h5
          rintro e w5 ⟨rfl, hP5, hb5⟩
          have hU5 := hU4.kept (slT_stays d) (Fr.of_kept (P' := OffL w.heap.size (.slice q4 (pre.length + 1) c4)) hb5 (fun g hg _ => ⟨by have := hg.1; omega, hg⟩)) (fun g hg => hb5.block g (hU4.lt hg).2 (by have := (hU4.lt hg).1; omega))
          go_wp2
          refine ⟨.inr ⟨pre ++ [s], b, _, rfl, rfl, HV', hU5, hP5, hk4.trans hb5⟩, ?_⟩
          show 0 < ts.length + 1 - placeOf _ R
          rw [hPa.place]
          omega
      · have hv := list_none (f := f) (pre := pre) hSV
        rw [show _ = V from HV] at hv
        clear HV HS hSV hU
        have b2 : Below w1.heap.size w1 (w1.alloc (.cells #[nilS] 32)) := (Below.refl _ _).alloc (Nat.le_refl _) _
        have HV' : Hid (V = none) := hv
        clear hv
        go_wp2
        go_ret2
        exact ⟨.inr ⟨HV', rfl, b, hP1.below b2⟩, hb1w.trans (.of_below b2)⟩
    · clear HS
      have hfin0 := UndRow.done (P' := fun b => w.heap.size ≤ b) hU (by decide) (slT_stays d) (fun _ h => h.1) (fun g hg => (hU.lt hg).1)
      have hfin : SelsAt (d + 1) (fun b => w.heap.size ≤ b) wr _ l := hfin0
      go_wp2
      go_ret2
      exact ⟨.inl ⟨l, b, _, HV, rfl, hfin, hPb⟩, hbw⟩

/-- A list is read right, however deep it may go. -/
theorem list_all (n₀ : Nat) : ∀ d, d ≤ 8 → ListOK n₀ d
  | 0, h => list_any n₀ 0 h (fun _ e => by cases e)
  | d + 1, h => list_any n₀ (d + 1) h (fun d' e => by cases e; exact list_all n₀ d (by omega))

theorem parse_long {ts : List Bt} (h : 1000 < ts.length) : parseV ts = none := by unfold parseV; rw [if_pos h]
theorem parse_short {ts : List Bt} (h : ¬ 1000 < ts.length) : parseV ts = match listV 8 ts with
  | some (l, []) => some l
  | _ => none := by
  unfold parseV
  rw [if_neg h]
  rfl

set_option maxRecDepth 100000 in
set_option maxHeartbeats 2000000 in
/-- sel.Parse AT EVERY SLICE OF TOKENS. -/
theorem parse_any (v : Value) (ts : List Bt) (w : World) (hv : BtsAt w.heap.size w v ts) (hS : OpsAt w.heap.size w) (hG : Good ts) :
    Calls Tryd.prog 5 #[v] w fun e w' => ((∃ l x, parseV ts = some l ∧ e = .returned (.tuple #[x, .bool true]) ∧ SelsAt 9 (fun b => w.heap.size ≤ b) w' x l) ∨ (parseV ts = none ∧ e = .returned (.tuple #[nilS, .bool false]))) ∧ Below w.heap.size w w' := by
  have hsh := hv.short
  obtain ⟨q, cap, rfl⟩ := hv.len
  obtain ⟨V, hV⟩ : ∃ V, parseV ts = V := ⟨_, rfl⟩
  rw [hV]
  by_cases hlong : 1000 < ts.length
  · rw [parse_long hlong] at hV
    subst hV
    have hli : (1000 : Int) < (ts.length : Int) := by omega
    go_enter Tryd.func5, Tryd.ntmps5
    go_wp2
    go_ret2
    first
    | exact ⟨.inr ⟨rfl, rfl⟩, Below.refl _ _⟩
    | exact ⟨.inr ⟨trivial, rfl⟩, Below.refl _ _⟩
  · rw [parse_short hlong] at hV
    have hli : ¬ (1000 : Int) < (ts.length : Int) := by omega
    have b0 : Below w.heap.size w (w.alloc (.cells #[.slice q ts.length cap, .int .i64 0, .int .i64 0] 46)) := (Below.refl _ _).alloc (Nat.le_refl _) _
    have hP0 : Rd w.heap.size (w.alloc (.cells #[.slice q ts.length cap, .int .i64 0, .int .i64 0] 46)) w.heap.size (.slice q ts.length cap) ts 0 (8 - ((8 : Nat) : Int)) := ⟨Blk.new w 46 _, hv.below b0, Nat.le_refl _, Nat.zero_le _, by omega⟩
    have hO0 : OpsAt w.heap.size _ := hS.below b0
    have h1 := list_all w.heap.size 8 (Nat.le_refl _) w.heap.size (.slice q ts.length cap) ts 0 _ hP0 hO0 hG
    rw [List.drop_zero] at h1
    have hs0 : w.heap.size ≤ (w.alloc (.cells #[.slice q ts.length cap, .int .i64 0, .int .i64 0] 46)).heap.size := by rw [World.size_alloc]; omega
    clear hP0 hO0
    go_enter Tryd.func5, Tryd.ntmps5
    go_upto_region 4 with fail
    generalize w.alloc (.cells #[.slice q ts.length cap, .int .i64 0, .int .i64 0] 46) = W at *
    go_wp2_with fail
    refine h1.mono ?_
    clear h1
    rintro e w1 ⟨hcs, hb1⟩
    have hbw : Below w.heap.size w w1 := ((Kept.of_below (keep := fun b => b ≠ w.heap.size) b0).trans hb1).below (Nat.le_refl _) (fun b hb => by omega)
    rcases hcs with ⟨l, b, x, hlv, rfl, hx, hP1⟩ | ⟨hlv, rfl, b, hP1⟩
    · rw [hlv] at hV
      have hlb := hP1.least
      obtain ⟨px, cx, rfl⟩ := hx.form
      obtain ⟨⟨p0, p1, p2⟩, _⟩ := blk3 hP1.blk
      have hxx := SelsAt.fr 9 hx (⟨Nat.le_refl _, fun b hb _ => ⟨rfl, by omega⟩⟩ : Fr (fun b => W.heap.size ≤ b) (fun b => w.heap.size ≤ b) w1 w1)
      clear hlv hx
      by_cases hlt : b < ts.length
      · have hbi : (b : Int) < (ts.length : Int) := by omega
        rw [at_cons hlt] at hV
        have HV : Hid (V = none) := hV.symm
        clear hV
        go_wp2
        go_ret2
        exact ⟨.inr ⟨HV, rfl⟩, hbw⟩
      · have hbi : ¬ (b : Int) < (ts.length : Int) := by omega
        rw [List.drop_eq_nil_of_le (by omega)] at hV
        have HV : Hid (V = some l) := hV.symm
        clear hV
        go_wp2
        go_ret2
        exact ⟨.inl ⟨l, _, HV, rfl, hxx⟩, hbw⟩
    · rw [hlv] at hV
      have HV : Hid (V = none) := hV.symm
      clear hV hlv
      go_wp2
      go_ret2
      exact ⟨.inr ⟨HV, rfl⟩, hbw⟩

end Go.Proofs.YtlcedbjlcjnkfabDoor.Sl
