/- For all integers and booleans: the law tapestrierlaw4.TokNumbers returns true; conditions: the tables hold what their texts lay (the card ties them to the program's text). -/
import Derived.Test.YtaecamnlimlpkaaDoorTkLays
import Derived.Test.YtaecamnlimlpkaaDoorNmBack
import Derived.Test.YtaecamnlimlpkaaDoorNmRef
import Derived.Deep.RegionHeld
namespace Go.Proofs.YtaecamnlimlpkaaDoor
open Go Go.ChangeShapes Go.WideShapes Go.ChangeAt Go.RowKit

/-! ### the texts of numbers -/
theorem dig_int {u : UInt8} (h : Nm.dig u = true) : isDigit (u.toNat : Int) = true := by
  have := Nm.dig_iff.1 h
  exact isDigit_iff.2 (by omega)
theorem allDig_ints {l : List UInt8} (h : Nm.allDig l = true) : (ints l).all isDigit = true := by
  rw [List.all_eq_true]
  intro c hc
  obtain ⟨u, hu, rfl⟩ := List.mem_map.1 hc
  exact dig_int (List.all_eq_true.1 h u hu)
theorem dig_plain {l : List UInt8} (h : Nm.allDig l = true) : ∀ u ∈ l, 43 ≤ u.toNat ∧ u.toNat ≤ 57 := fun u hu => by
  have := Nm.dig_iff.1 (List.all_eq_true.1 h u hu)
  omega
theorem mag_plain (m : Nat) : ∀ u ∈ Nm.mag m, 43 ≤ u.toNat ∧ u.toNat ≤ 57 := fun u hu => by
  unfold Nm.mag Nm.frac at hu
  rcases List.mem_append.1 hu with hu | hu
  · exact dig_plain (Nm.dec_dig _) u hu
  · split at hu
    · cases hu
    · rcases List.mem_cons.1 hu with rfl | hu
      · decide
      · exact dig_plain (Nm.drop_dig _ (by omega)) u hu
def isNeg (g : List UInt8) (m : Nat) (V : Int) : Prop := (g = [] ∧ V = m) ∨ (g = [45] ∧ V = -(m : Int))
theorem nv_mag {m : Nat} (hm : m ≤ 2147483647) {g : List UInt8} {V : Int} (hg : isNeg g m V) : nvOf (ints (g ++ Nm.mag m)) = V := by
  have hp : ∀ u ∈ g ++ Nm.mag m, u.toNat < 128 := fun u hu => by
    rcases List.mem_append.1 hu with hu | hu
    · rcases hg with ⟨rfl, _⟩ | ⟨rfl, _⟩
      · cases hu
      · rcases List.mem_singleton.1 hu with rfl
        decide
    · have := mag_plain m u hu
      omega
  unfold nvOf
  rw [encs_plain _ hp]
  obtain ⟨b1, b2⟩ := Nm.bare_mag m
  rcases hg with ⟨rfl, rfl⟩ | ⟨rfl, rfl⟩
  · obtain ⟨k1, k2⟩ := Nm.num_mag hm b2
    rw [List.nil_append, Nm.numN_up k1 b1, k2]
  · obtain ⟨k1, k2⟩ := Nm.num_mag (l := 45 :: Nm.mag m) hm rfl
    rw [List.singleton_append, Nm.numN_down k1 rfl, k2]
theorem text_mag (m : Nat) {g : List UInt8} {V : Int} (hg : isNeg g m V) (x : List Int) (hx : isDigit (see x 0) = false) (hp : pointed x = false) :
    numText (ints (g ++ Nm.mag m) ++ x) = (ints (g ++ Nm.mag m), x, decide (m % 1000 = 0)) ∧ begNum (ints (g ++ Nm.mag m) ++ x) = true ∧ ints (g ++ Nm.mag m) ++ x ≠ [] := by
  have hs : isSgn (ints g) := by rcases hg with ⟨rfl, _⟩ | ⟨rfl, _⟩ <;> simp [isSgn, ints]
  have hd := allDig_ints (Nm.dec_dig (m / 1000))
  have hne : ints (Lib.decDigits (m / 1000)) ≠ [] := fun e => Nm.dec_some (m / 1000) (List.map_eq_nil_iff.1 e)
  by_cases h0 : m % 1000 = 0
  · have e : ints (g ++ Nm.mag m) = ints g ++ ints (Lib.decDigits (m / 1000)) := by
      unfold Nm.mag Nm.frac
      rw [if_pos h0, List.append_nil, ints_append]
    rw [e, decide_eq_true h0]
    exact ⟨numText_flat hs hne hd hx hp, begNum_parts hs hne hd x, by simp [hne]⟩
  · have e : ints (g ++ Nm.mag m) = ints g ++ ints (Lib.decDigits (m / 1000)) ++ 46 :: ints ((Lib.decDigits (1000 + m % 1000)).drop 1) := by
      unfold Nm.mag Nm.frac
      rw [if_neg h0, ints_append, ints_append, List.append_assoc]
      rfl
    have hf := allDig_ints (Nm.drop_dig (m % 1000) (by omega))
    have hfe : ints ((Lib.decDigits (1000 + m % 1000)).drop 1) ≠ [] := by rw [Nm.three_dig _ (by omega)]; simp [ints]
    rw [e, decide_eq_false h0]
    refine ⟨?_, ?_, by simp⟩
    · rw [List.append_assoc (ints g ++ _) (46 :: _) x]
      exact numText_deep hs hne hd hfe hf hx
    · have := begNum_parts hs hne hd (46 :: ints ((Lib.decDigits (1000 + m % 1000)).drop 1) ++ x)
      rw [← List.append_assoc] at this
      exact this
theorem nv_one : nvOf [43, 49] = 1000 := by decide +kernel

/-- What comes out of each kind. -/
structure NumKind (s : ByteArray) (B : ByteArray) (ts : List Tk) : Prop where
  out : tksOf (s ++ B).data.toList = ts
  short : B.size ≤ 3 ∧ ts.length ≤ 3
theorem num_kinds {s : ByteArray} {m : Nat} (hm : m ≤ 2147483647) {g : List UInt8} {V : Int} (hg : isNeg g m V) (hs : s.data.toList = g ++ Nm.mag m) {wh : Bool} (hw : wh = decide (m % 1000 = 0)) :
    NumKind s ⟨#[]⟩ [⟨6, [], V, wh, 0⟩] ∧ NumKind s ⟨#[37]⟩ [⟨7, [], V, false, 0⟩] ∧ NumKind s ⟨#[112, 120]⟩ [⟨8, [112, 120], V, false, 0⟩]
    ∧ NumKind s ⟨#[32, 112, 120]⟩ [⟨6, [], V, wh, 0⟩, ⟨9, [], 0, false, 0⟩, ⟨1, [112, 120], 0, false, 0⟩] ∧ NumKind s ⟨#[46]⟩ [⟨6, [], V, wh, 0⟩, ⟨10, [], 0, false, 46⟩]
    ∧ NumKind s ⟨#[45]⟩ [⟨6, [], V, wh, 0⟩, ⟨10, [], 0, false, 45⟩] ∧ NumKind s ⟨#[43, 49]⟩ [⟨6, [], V, wh, 0⟩, ⟨6, [], 1000, true, 0⟩] := by
  have hp : ∀ u ∈ g ++ Nm.mag m, u.toNat < 128 ∧ u.toNat ≠ 13 ∧ u.toNat ≠ 12 ∧ u.toNat ≠ 0 := fun u hu => by
    rcases List.mem_append.1 hu with hu | hu
    · rcases hg with ⟨rfl, _⟩ | ⟨rfl, _⟩
      · cases hu
      · rcases List.mem_singleton.1 hu with rfl
        decide
    · have := mag_plain m u hu
      omega
  have key : ∀ B : ByteArray, (∀ u ∈ B.data.toList, u.toNat < 128 ∧ u.toNat ≠ 13 ∧ u.toNat ≠ 12 ∧ u.toNat ≠ 0) → tksOf (s ++ B).data.toList = toks nvOf (ints (g ++ Nm.mag m) ++ ints B.data.toList) := fun B hB => by
    rw [Nm.data_app, hs]
    unfold tksOf
    rw [prep_ints _ (fun u hu => (List.mem_append.1 hu).elim (hp u) (hB u)), ints_append]
  have hv := nv_mag hm hg
  have K := fun (x : List Int) (h1 : isDigit (see x 0) = false) (h2 : pointed x = false) => toks_behind nvOf (text_mag m hg x h1 h2).2.1 (text_mag m hg x h1 h2).2.2 (text_mag m hg x h1 h2).1
  rw [hv, nv_one, ← hw] at K
  refine ⟨⟨?_, by decide, by simp⟩, ⟨?_, by decide, by simp⟩, ⟨?_, by decide, by simp⟩, ⟨?_, by decide, by simp⟩, ⟨?_, by decide, by simp⟩, ⟨?_, by decide, by simp⟩, ⟨?_, by decide, by simp⟩⟩
  · rw [key _ (by simp)]; exact (K [] (by decide) (by decide)).1 rfl
  · rw [key _ (by simp)]; exact (K [37] (by decide) (by decide)).2.1 rfl
  · rw [key _ (by simp)]; exact (K [112, 120] (by decide) (by decide)).2.2.1 rfl
  · rw [key _ (by simp)]; exact (K [32, 112, 120] (by decide) (by decide)).2.2.2.1 rfl
  · rw [key _ (by simp)]; exact (K [46] (by decide) (by decide)).2.2.2.2.1 rfl
  · rw [key _ (by simp)]; exact (K [45] (by decide) (by decide)).2.2.2.2.2.1 rfl
  · rw [key _ (by simp)]; exact (K [43, 49] (by decide) (by decide)).2.2.2.2.2.2 rfl

/-- The blocks that the law lays. -/
def numObjs (w : World) (V : Int) (wh : Bool) : List Obj := [.cells #[.string ⟨#[]⟩, .string ⟨#[37]⟩, .string ⟨#[112, 120]⟩, .string ⟨#[32, 112, 120]⟩, .string ⟨#[46]⟩, .string ⟨#[45]⟩, .string ⟨#[43, 49]⟩] 9, .cells #[.int .i64 6, .string ⟨#[]⟩, .int .i64 V, .bool wh, .int .i64 0] 26, .cells #[.int .i64 7, .string ⟨#[]⟩, .int .i64 V, .bool false, .int .i64 0] 26, .cells #[.int .i64 8, .string ⟨#[112, 120]⟩, .int .i64 V, .bool false, .int .i64 0] 26, .cells #[.int .i64 6, .string ⟨#[]⟩, .int .i64 V, .bool wh, .int .i64 0, .int .i64 9, .string ⟨#[]⟩, .int .i64 0, .bool false, .int .i64 0, .int .i64 1, .string ⟨#[112, 120]⟩, .int .i64 0, .bool false, .int .i64 0] 26, .cells #[.int .i64 6, .string ⟨#[]⟩, .int .i64 V, .bool wh, .int .i64 0, .int .i64 10, .string ⟨#[]⟩, .int .i64 0, .bool false, .int .i64 46] 26, .cells #[.int .i64 6, .string ⟨#[]⟩, .int .i64 V, .bool wh, .int .i64 0, .int .i64 10, .string ⟨#[]⟩, .int .i64 0, .bool false, .int .i64 45] 26, .cells #[.int .i64 6, .string ⟨#[]⟩, .int .i64 V, .bool wh, .int .i64 0, .int .i64 6, .string ⟨#[]⟩, .int .i64 1000, .bool true, .int .i64 0] 26, .cells #[.slice (some ⟨w.heap.size + 1, 0, none⟩) 1 1, .slice (some ⟨w.heap.size + 2, 0, none⟩) 1 1, .slice (some ⟨w.heap.size + 3, 0, none⟩) 1 1, .slice (some ⟨w.heap.size + 4, 0, none⟩) 3 3, .slice (some ⟨w.heap.size + 5, 0, none⟩) 2 2, .slice (some ⟨w.heap.size + 6, 0, none⟩) 2 2, .slice (some ⟨w.heap.size + 7, 0, none⟩) 2 2] 27]
/-- What is found there at the place j. -/
def NumAt (w W : World) (s : ByteArray) (j : Nat) : Prop := ∃ (B : ByteArray) (bt : Nat) (ts : List Tk), W.cell? ⟨w.heap.size, j, none⟩ = some (.string B) ∧ W.cell? ⟨w.heap.size + 8, j, none⟩ = some (.slice (some ⟨bt, 0, none⟩) ts.length ts.length) ∧ TksAt W.heap.size W (.slice (some ⟨bt, 0, none⟩) ts.length ts.length) ts ∧ NumKind s B ts
theorem px_txt : txtOf [112, 120] = ⟨#[112, 120]⟩ := txt_plain (l := [112, 120]) rfl (by decide)
theorem nums_laid (w : World) {s : ByteArray} {m : Nat} (hm : m ≤ 2147483647) {g : List UInt8} {V : Int} (hg : isNeg g m V) (hs : s.data.toList = g ++ Nm.mag m) {wh : Bool} (hw : wh = decide (m % 1000 = 0)) : ∀ j, j < 7 → NumAt w (lays w (numObjs w V wh)) s j := by
  obtain ⟨k1, k2, k3, k4, k5, k6, k7⟩ := num_kinds hm hg hs hw
  have cb := fun j => cell_of_block (lays_at (numObjs w V wh) w 0 _ rfl) j
  have cw := fun j => cell_of_block (lays_at (numObjs w V wh) w 8 _ rfl) j
  have tk : ∀ (i : Nat) (ts : List Tk), ts.length ≤ 1000000 → (numObjs w V wh)[i]? = some (.cells (tksCells ts).toArray 26) → TksAt (lays w (numObjs w V wh)).heap.size (lays w (numObjs w V wh)) (.slice (some ⟨w.heap.size + i, 0, none⟩) ts.length ts.length) ts := fun i ts hl hi => tks_block hl (lays_at _ w i _ hi)
  intro j hj
  obtain rfl | rfl | rfl | rfl | rfl | rfl | rfl : j = 0 ∨ j = 1 ∨ j = 2 ∨ j = 3 ∨ j = 4 ∨ j = 5 ∨ j = 6 := by omega
  · exact ⟨_, w.heap.size + 1, [⟨6, [], V, wh, 0⟩], cb 0, cw 0, tk 1 _ (by simp) (by simp [numObjs, tksCells, tkCells, txtOf_nil]), k1⟩
  · exact ⟨_, w.heap.size + 2, [⟨7, [], V, false, 0⟩], cb 1, cw 1, tk 2 _ (by simp) (by simp [numObjs, tksCells, tkCells, txtOf_nil]), k2⟩
  · exact ⟨_, w.heap.size + 3, [⟨8, [112, 120], V, false, 0⟩], cb 2, cw 2, tk 3 _ (by simp) (by simp [numObjs, tksCells, tkCells, px_txt]), k3⟩
  · exact ⟨_, w.heap.size + 4, [⟨6, [], V, wh, 0⟩, ⟨9, [], 0, false, 0⟩, ⟨1, [112, 120], 0, false, 0⟩], cb 3, cw 3, tk 4 _ (by simp) (by simp [numObjs, tksCells, tkCells, txtOf_nil, px_txt]), k4⟩
  · exact ⟨_, w.heap.size + 5, [⟨6, [], V, wh, 0⟩, ⟨10, [], 0, false, 46⟩], cb 4, cw 4, tk 5 _ (by simp) (by simp [numObjs, tksCells, tkCells, txtOf_nil]), k5⟩
  · exact ⟨_, w.heap.size + 6, [⟨6, [], V, wh, 0⟩, ⟨10, [], 0, false, 45⟩], cb 5, cw 5, tk 6 _ (by simp) (by simp [numObjs, tksCells, tkCells, txtOf_nil]), k6⟩
  · exact ⟨_, w.heap.size + 7, [⟨6, [], V, wh, 0⟩, ⟨6, [], 1000, true, 0⟩], cb 6, cw 6, tk 7 _ (by simp) (by simp [numObjs, tksCells, tkCells, txtOf_nil]), k7⟩

theorem mag_parts (a b : Nat) (hb : b < 1000) : Nm.mag (a * 1000 + b) = Lib.decDigits a ++ if b = 0 then [] else 46 :: (Lib.decDigits (1000 + b)).drop 1 := by
  unfold Nm.mag Nm.frac
  rw [show (a * 1000 + b) / 1000 = a by omega, show (a * 1000 + b) % 1000 = b by omega]
theorem mag_data {a b : Nat} {q r : ByteArray} (hb : b < 1000) (h0 : b ≠ 0) (hr : r.data.toList = Lib.decDigits a) (hq : q.data.toList = Lib.decDigits (1000 + b)) : (r ++ ⟨#[46]⟩ ++ q.extract 1 4).data.toList = Nm.mag (a * 1000 + b) := by
  rw [mag_parts a b hb, if_neg h0, Nm.data_app, Nm.data_app, Nm.data_ext, hr, hq, Nm.dec4 b hb]
  simp
theorem four_of {b : Nat} {q : ByteArray} (hb : b < 1000) (hq : q.data.toList = Lib.decDigits (1000 + b)) : q.size = 4 := by
  rw [← Nm.len_list, hq, Nm.dec4 _ hb]
  rfl
theorem three_of {q : ByteArray} (hq : q.size = 4) : (q.extract 1 4).size = 3 := by
  rw [← Nm.len_list, Nm.data_ext, List.length_take, List.length_drop, Nm.len_list, hq]
  decide

set_option maxRecDepth 100000 in
set_option maxHeartbeats 8000000 in
theorem tokNumbers_walk (w : World) (hT : LTabs w.heap.size w) (A : Int) (_wa : (Lit.int .i64 A).wf = true) (B : Int) (_wb : (Lit.int .i64 B).wf = true) (bel : Bool) (which : Int) (_ww : (Lit.int .i64 which).wf = true) :
    Calls Tryd.prog 5 #[.int .i64 A, .int .i64 B, .bool bel, .int .i64 which] w fun e w' => e = .returned (.bool true) ∧ Below w.heap.size w w' := by
  have h0 := alive_any w hT
  go_enter Tryd.func5, Tryd.ntmps5
  go_wp2_with fail
  refine h0.mono ?_
  clear h0
  rintro e w1 ⟨rfl, b1⟩
  have T1 := hT.next b1
  by_cases ha0 : A < 0
  · go_wp2
    go_ret
    exact ⟨rfl, b1⟩
  by_cases ha1 : 2000000 < A
  · go_wp2
    go_ret
    exact ⟨rfl, b1⟩
  by_cases hb0 : B < 0
  · go_wp2
    go_ret
    exact ⟨rfl, b1⟩
  by_cases hb1 : 999 < B
  · go_wp2
    go_ret
    exact ⟨rfl, b1⟩
  obtain ⟨a, rfl⟩ := Int.eq_ofNat_of_zero_le (show 0 ≤ A by omega)
  obtain ⟨b, rfl⟩ := Int.eq_ofNat_of_zero_le (show 0 ≤ B by omega)
  have h1 := fun w => Nm.digits_any a (by omega) w
  have h2 := fun w => Nm.digits_any (1000 + b) (by omega) w
  have e2 : ((1000 + b : Nat) : Int) = 1000 + (b : Int) := by omega
  simp only [e2] at h2
  clear e2
  go_wp2_with fail
  refine (h1 _).mono ?_
  clear h1
  rintro e w' ⟨r, rfl, hr, rfl⟩
  have sr := Nm.dec_len (by omega) hr
  go_upto_if 40 with fail
  go_cut [10, 11] (fun s n wx => (∃ S : ByteArray, s = .string S ∧ S.data.toList = Nm.mag (a * 1000 + b) ∧ S.size ≤ 30) ∧ n = .int .i64 ((a : Int) * 1000 + b) ∧ w' = wx)
  case first =>
    by_cases hbz : b = 0
    · subst hbz
      clear h2
      go_wp2
      go_meet
      exact ⟨⟨r, rfl, by rw [mag_parts a 0 (by decide), if_pos rfl, List.append_nil, hr], by omega⟩, by simp, rfl⟩
    · have g : (0 : Int) < (b : Int) := by omega
      have x1 : (⟨#[46]⟩ : ByteArray).size = 1 := rfl
      go_wp2_with fail
      refine (h2 _).mono ?_
      clear h2
      rintro e w3 ⟨q, rfl, hq, rfl⟩
      have h4 := four_of (by omega) hq
      have h5 := three_of h4
      go_wp2
      go_meet
      exact ⟨⟨_, rfl, mag_data (by omega) hbz hr hq, by simp only [ByteArray.size_append, x1, h5]; omega⟩, rfl, rfl⟩
  case rest =>
  obtain ⟨⟨S1, rfl, hS1, sS1⟩, rfl, rfl⟩ := hcut
  clear h2 hr sr
  go_upto_if 52 with fail
  go_cut [10, 11] (fun s n wx => ∃ (S : ByteArray) (g : List UInt8) (V : Int), s = .string S ∧ n = .int .i64 V ∧ isNeg g (a * 1000 + b) V ∧ S.data.toList = g ++ Nm.mag (a * 1000 + b) ∧ S.size ≤ 31 ∧ w' = wx)
  case first =>
    have x1 : (⟨#[45]⟩ : ByteArray).size = 1 := rfl
    cases bel with
    | false =>
      go_wp2
      go_meet
      exact ⟨S1, [], _, rfl, rfl, .inl ⟨rfl, by omega⟩, hS1, by omega, rfl⟩
    | true =>
      go_wp2
      go_meet
      exact ⟨⟨#[45]⟩ ++ S1, [45], _, rfl, rfl, .inr ⟨rfl, by omega⟩, by rw [Nm.data_app, hS1], by simp only [ByteArray.size_append, x1]; omega, rfl⟩
  case rest =>
  obtain ⟨S, g, V, rfl, rfl, hg, hS, sS, rfl⟩ := hcut
  clear hS1 sS1
  obtain ⟨wh, hwh⟩ : ∃ wh, ((b : Int) == 0) = wh := ⟨_, rfl⟩
  have hw : wh = decide ((a * 1000 + b) % 1000 = 0) := by
    rw [← hwh, show (a * 1000 + b) % 1000 = b by omega]
    by_cases h : b = 0
    · subst h; rfl
    · rw [decide_eq_false h, beq_eq_false_iff_ne]; omega
  have hall := nums_laid w' (by omega) hg hS hw
  clear hg hS hw
  go_upto_region 15 with fail
  change Code.wp _ _ _ _ (lays w' (numObjs w' V wh))
  have bW := lays_below (numObjs w' V wh) w'
  have hlt : w'.heap.size + 1 + 1 + 1 + 1 + 1 + 1 + 1 + 1 < (lays w' (numObjs w' V wh)).heap.size := by
    rw [lays_size]
    exact Nat.lt_succ_self _
  generalize lays w' (numObjs w' V wh) = W at *
  have TW := T1.next bW
  have bb := b1.trans (bW.mono b1.size)
  clear bW T1 hwh
  by_cases hneg : which < 0
  · go_wp2
    go_ret
    exact ⟨rfl, bb⟩
  by_cases hbig : 7 ≤ which
  · go_wp2
    go_ret
    exact ⟨rfl, bb⟩
  obtain ⟨j, rfl⟩ := Int.eq_ofNat_of_zero_le (show 0 ≤ which by omega)
  obtain ⟨B, bt, ts, cb, cw, tW, hk⟩ := hall j (by omega)
  obtain ⟨out, sB, sT⟩ := hk
  have cw' : W.cell? ⟨w'.heap.size + 1 + 1 + 1 + 1 + 1 + 1 + 1 + 1, j, none⟩ = _ := cw
  have hj7 : (j : Int) < 7 := by omega
  have hj0 : (0 : Int) ≤ (j : Int) := Int.natCast_nonneg j
  obtain ⟨p3, m3, c3, w3, hrun, hB3, b3, _⟩ := conv_str (S ++ B) W.drew (by simp only [ByteArray.size_append]; omega)
  clear cw hall
  have b3' : Below W.heap.size W w3 := ⟨b3.os, b3.tape, b3.output, b3.size, b3.block⟩
  have hl4 : (S ++ B).data.toList.length ≤ 1000000 := by
    rw [Nm.len_list, ByteArray.size_append]
    omega
  have h4 := ofB_any _ _ w3 hB3 (TW.next b3') hl4
  rw [out] at h4
  have h5 := fun v4 w4 (t4 : TksAt w4.heap.size w4 v4 ts) (b4 : Below w3.heap.size w3 w4) => sameToks_yes v4 (.slice (some ⟨bt, 0, none⟩) ts.length ts.length) ts w4 t4 (tW.next (b3'.trans (b4.mono b3'.size))) (Nat.le_trans sT (by decide))
  have hS : ∀ X : World, Below W.heap.size W X → X.cell? ⟨w'.heap.size, j, none⟩ = some (.string B) ∧ X.cell? ⟨w'.heap.size + 1 + 1 + 1 + 1 + 1 + 1 + 1 + 1, j, none⟩ = some (.slice (some ⟨bt, 0, none⟩) ts.length ts.length) := fun X hX => ⟨(hX.cell (p := ⟨_, j, none⟩) (show w'.heap.size < _ by omega)).trans cb, (hX.cell (p := ⟨_, j, none⟩) hlt).trans cw'⟩
  clear out hl4 hB3 TW tW hlt
  go_upto_region 17 with fail
  go_cut [8] (fun s4 wx => s4 = .bool true ∧ Below W.heap.size W wx)
  case first =>
    go_region_held (fun X => X.cell? ⟨w'.heap.size, j, none⟩ = some (.string B) ∧ X.cell? ⟨w'.heap.size + 1 + 1 + 1 + 1 + 1 + 1 + 1 + 1, j, none⟩ = some (.slice (some ⟨bt, 0, none⟩) ts.length ts.length)) (first | exact hS _ (by assumption) | go_keep)
      (first
      | (go_at_call 10; refine h4.mono ?_; rintro e w4 ⟨v4, rfl, r4, b4⟩; have b34 := b3'.trans (b4.mono b3'.size))
      | (go_at_call 9; refine (h5 v4 _ (TksAt.of_owns r4) b4).mono ?_; rintro e w5 ⟨rfl, b5⟩; have b35 := b34.trans (b5.mono b34.size)))
    go_wp2_with fail
    go_meet
    exact ⟨rfl, b35⟩
  case rest =>
    obtain ⟨rfl, b9⟩ := hcut
    go_wp2
    go_ret
    exact ⟨rfl, bb.trans (b9.mono bb.size)⟩

theorem tokNumbers_met (os : Os) : laidMet Tryd.prog Rows.tokNumbersRow.laid ((laidIn (World.holding Tryd.prog os ⟨#[], #[], []⟩)).forCall (fun _ _ => 0) ⟨#[], #[.int .i64 0, .int .i64 0, .bool false, .int .i64 0], []⟩).memory :=
  laidMet_of_run' 8 (by kernel_rfl) (by kernel_rfl)
theorem tokNumbers_reads (os : Os) {H : Type} (enc : TypeId × Value → H) : ∃ places, DataW.whole enc Tryd.prog ((laidIn (World.holding Tryd.prog os ⟨#[], #[], []⟩)).forCall (fun _ _ => 0) ⟨#[], #[.int .i64 0, .int .i64 0, .bool false, .int .i64 0], []⟩).memory Tryd.f5.params.toList Rows.tokNumbersSpec.vars false (#[.int .i64 0, .int .i64 0, .bool false, .int .i64 0] : Array Value).toList 8 = some ([.lit (.int .i64 0), .lit (.int .i64 0), .lit (.bool false), .lit (.int .i64 0)], [], places) :=
  ⟨[], by kernel_rfl⟩

set_option maxRecDepth 100000 in
theorem tokNumbers_lifted (os : Os) (started : os.Started) (H : Type) (enc : TypeId × Value → H) (F : Stop.Interp) :
    ReturnsInHanded {} Tryd.checked os 5 .any ((OpenSpec.ofChange Rows.tokNumbersSpec).preRow enc Tryd.prog Tryd.f5 Rows.tokNumbersRow.domain false Rows.tokNumbersRow.laid) (((OpenSpec.ofChange Rows.tokNumbersSpec).at F).post enc Tryd.prog Tryd.f5 false true false false) := by
  obtain ⟨places, hx⟩ := tokNumbers_reads os enc
  refine returnsInHanded_of_row (C := Tryd.checked) (s := OpenSpec.ofChange Rows.tokNumbersSpec) ownNone started (by kernel_rfl) Tryd.func5
    (witness_row_at (enc := enc) (C := Tryd.checked) false (laidIn (World.holding Tryd.prog os ⟨#[], #[], []⟩)) #[.int .i64 0, .int .i64 0, .bool false, .int .i64 0] rfl (by kernel_rfl) (by kernel_rfl) (by kernel_rfl)
      (OpenSpec.preRow_of_cond 8 hx (by kernel_rfl) (fun k hk => by cases hk) (by kernel_rfl) (tokNumbers_met os))) ?_
  intro W base args ds gs before hval hW _ _ _ hL hS _
  have hW' := hW
  obtain ⟨p, q, hA0, hV, rfl, hfz, hnd⟩ := hW
  have hA : DataW.TrodAll enc Tryd.prog W 0 (fun _ => true) true Tryd.f5.params.toList args.toList ds p := hA0
  rw [Tryd.params5] at hA hval
  obtain ⟨v0, vs0, d0, ds0, p0, q0, hargs, rfl, rfl, h0, r0⟩ := trodAll_cons hA
  obtain ⟨v1, vs1, d1, ds1, p1, q1, rfl, rfl, rfl, h1, r1⟩ := trodAll_cons r0
  obtain ⟨v2, vs2, d2, ds2, p2, q2, rfl, rfl, rfl, h2, r2⟩ := trodAll_cons r1
  obtain ⟨v3, vs3, d3, ds3, p3, q3, rfl, rfl, rfl, h3, r3⟩ := trodAll_cons r2
  obtain ⟨rfl, rfl, rfl⟩ := trodAll_nil r3
  obtain rfl : args = #[v0, v1, v2, v3] := by cases args; simp_all
  obtain ⟨rfl, rfl⟩ := trodVars_none hV
  obtain ⟨a0, rfl, rfl, rfl, w0⟩ := open_int Tryd.underlying3 (hval 0 3 v0 rfl rfl) h0
  obtain ⟨a1, rfl, rfl, rfl, w1⟩ := open_int Tryd.underlying3 (hval 1 3 v1 rfl rfl) h1
  obtain ⟨a2, rfl, rfl, rfl⟩ := open_bool Tryd.underlying4 (hval 2 4 v2 rfl rfl) h2
  obtain ⟨a3, rfl, rfl, rfl, w3⟩ := open_int Tryd.underlying3 (hval 3 3 v3 rfl rfl) h3
  clear hA0
  refine (tokNumbers_walk W (tabs_of_laid hL hS) a0 w0 a1 w1 a2 a3 w3).mono fun e W' ⟨he, bel⟩ => ?_
  subst he
  exact ⟨_, rfl, _, _, _, [], _, [], hW', trodAll_mk1 (shut_bool Tryd.underlying4 _), (trodAll_cons_mk (shut_int Tryd.underlying3 w0) (trodAll_cons_mk (shut_int Tryd.underlying3 w1) (trodAll_cons_mk (shut_bool Tryd.underlying4 _) (trodAll_cons_mk (shut_int Tryd.underlying3 w3) trodAll_mk0)))), rfl, bel.frame _, fun h => by cases h⟩

theorem tokNumbers_said : Rows.TokNumbersSaid :=
  OpenClaim.holds_of_cond 5 Tryd.f5 rfl rfl rfl rfl rfl rfl rfl ⟨rfl, rfl, rfl, rfl, rfl⟩ rfl rfl rfl rfl rfl (by kernel_rfl) Tryd.func5 (by kernel_rfl)
    (of_decide_eq_true (by kernel_rfl)) (by unfold Func.isWrapper; first | (rw [if_pos (by decide +kernel)]; kernel_rfl) | (rw [if_neg (by decide +kernel)]; exact ⟨rfl, rfl⟩))
    (fun os started H enc _ F => by rw [OpenClaim.pre_eq_preRow]; exact tokNumbers_lifted os started H enc F)

theorem tokNumbers_plain (f : FuncId) (fn : Func) (hf : Tryd.pinned.checked.prog.funcNamed "tapestrier/tapestrierlaw4.TokNumbers" = some f) (hfn : Tryd.pinned.checked.prog.funcs[f]? = some fn) :
    false = Tryd.pinned.checked.prog.looks [] ∧ ∀ (j : Nat) t, fn.params[j]? = some t → Tryd.pinned.checked.prog.wantsStandIn t = false := by
  obtain rfl : f = 5 := Option.some.inj ((show Tryd.prog.funcNamed "tapestrier/tapestrierlaw4.TokNumbers" = some 5 by kernel_rfl).symm.trans hf) |>.symm
  obtain rfl : fn = Tryd.f5 := (Option.some.inj (Tryd.func5.symm.trans hfn)).symm
  refine ⟨by kernel_rfl, fun j t ht => ?_⟩
  rw [Tryd.params5] at ht
  have hm : t ∈ [3, 4, 3] := by simpa using Array.mem_of_getElem? ht
  have hall : ([3, 4, 3].all fun u => !Tryd.prog.wantsStandIn u) = true := by kernel_rfl
  exact (show Tryd.prog.wantsStandIn t = false by simpa using List.all_eq_true.1 hall t hm)

theorem tokNumbers_card : Rows.TokNumbersCardSaid :=
  Claim7.holds_tied_plain_at .later [] _ _ _ _ tokNumbers_said (fun _ h => by cases h) (by kernel_rfl) (fun _ h => by cases h) tokNumbers_row_tie rfl ⟨rfl, rfl⟩ (by kernel_rfl) rfl tokNumbers_plain (by kernel_rfl)
#print axioms tokNumbers_card

end Go.Proofs.YtaecamnlimlpkaaDoor
