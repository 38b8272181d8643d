/- For every slice of integers: the law tapestrierlaw1.TextEnds returns true and leaves its argument as it was; conditions: the library's two UTF-8 tables hold what its text lays (the card ties them to the program's text). -/
import Derived.Laws.IdiomStrings
import Derived.Deep.RegionWith
import Derived.Deep.DeepCutAuto
import Derived.Test.YtpbgefgoccmncabDoorBack
import Derived.Test.YtpbgefgoccmncabDoorOpen
namespace Go.Proofs.YtpbgefgoccmncabDoor
open Go Go.ChangeShapes Go.WideShapes Go.ChangeAt Go.RowKit
open Go.Lib (decodeN)

/-- One line and its end. -/
def endOf (n : Int) : List UInt8 := if n % 4 = 0 then [120, 10] else if n % 4 = 1 then [120, 13] else if n % 4 = 2 then [120, 12] else [120, 13, 10]
def lines (l : List Int) : List UInt8 := l.flatMap endOf
theorem lines_snoc (l : List Int) (n : Int) : lines (l ++ [n]) = lines l ++ endOf n := by simp [lines]
theorem endOf_len (n : Int) : (endOf n).length ≤ 3 := by
  unfold endOf
  repeat' split
  all_goals simp
theorem lines_len (l : List Int) : (lines l).length ≤ 3 * l.length := by
  induction l with
  | nil => simp [lines]
  | cons c t ih =>
    have := endOf_len c
    have e : lines (c :: t) = endOf c ++ lines t := by simp [lines]
    rw [e]
    simp
    omega
/-- What the lines are, prepared. -/
def two (l : List Int) : List Int := l.flatMap fun _ => [120, 10]
theorem two_length (l : List Int) : (two l).length = 2 * l.length := by
  induction l with
  | nil => rfl
  | cons c t ih =>
    have e : two (c :: t) = 120 :: 10 :: two t := by simp [two]
    rw [e]
    simp
    omega
theorem two_at : ∀ (l : List Int) (k : Nat), k < l.length → (two l)[2 * k]? = some 120 ∧ (two l)[2 * k + 1]? = some 10
  | [], k, h => by simp at h
  | c :: t, 0, _ => by simp [two]
  | c :: t, k + 1, h => by
    have ih := two_at t k (by simpa using h)
    have e : two (c :: t) = 120 :: 10 :: two t := by simp [two]
    rw [e, show 2 * (k + 1) = 2 * k + 2 from by omega]
    simpa using ih
theorem dec_ascii (u : UInt8) (t : List UInt8) (h : u.toNat < 128) : dec (u :: t) = (u.toNat, 1) := by
  rw [dec_eq (by simp)]
  exact dn_one _ _ _ _ _ h
theorem ipts_ascii (u : UInt8) (t : List UInt8) (h : u.toNat < 128) : ipts (u :: t) = (u.toNat : Int) :: ipts t := by
  rw [ipts_cons (by simp), dec_ascii u t h]
  rfl
theorem ipts_end (n : Int) (t : List UInt8) : ipts (endOf n ++ t) = (if n % 4 = 0 then [120, 10] else if n % 4 = 1 then [120, 13] else if n % 4 = 2 then [120, 12] else [120, 13, 10]) ++ ipts t := by
  unfold endOf
  repeat' split
  all_goals
    simp only [List.cons_append, List.nil_append]
    repeat rw [ipts_ascii _ _ (by decide)]
    rfl
/-- Whatever stands behind a line's end, it begins a line: so what is prepared is two points a line. -/
theorem prep_lines : ∀ (l : List Int) (c : Bool), prepFrom c (ipts (lines l)) = two l
  | [], c => by simp [lines, ipts_nil, prepFrom, two]
  | n :: t, c => by
    have e : lines (n :: t) = endOf n ++ lines t := by simp [lines]
    have e2 : two (n :: t) = 120 :: 10 :: two t := by simp [two]
    rw [e, ipts_end, e2]
    have ih := fun c => prep_lines t c
    repeat' split
    all_goals simp [prepFrom, repl, ih]

theorem below_of_drew {X Y : World} (b : Below X.drew.heap.size X.drew Y) : Below X.heap.size X Y := ⟨b.os, b.tape, b.output, b.size, b.block⟩

/-- 'string(b)'. -/
theorem conv_str {n₀ : Nat} {X : World} {v : Value} {l : List UInt8} (h : BytesAt n₀ X v l) : (convert 22 9 v).run Tryd.prog X = .ok (.string ⟨l.toArray⟩) X := by
  rcases h with ⟨rfl, rfl | ⟨x, cap, rfl⟩⟩ | ⟨bk, off, cap, rfl, _, _, _, hc⟩
  · rw [run_convert_bytes_string X 22 9 5 none 0 0 Tryd.underlying22 Tryd.underlying5 Tryd.underlying9]
    rfl
  · exact run_convert_bytes_back X 22 9 5 x cap [] Tryd.underlying22 Tryd.underlying5 Tryd.underlying9 (fun j hj => by simp at hj)
  · refine run_convert_bytes_back X 22 9 5 ⟨bk, off, none⟩ cap l Tryd.underlying22 Tryd.underlying5 Tryd.underlying9 (fun j hj => ?_)
    rw [show (⟨bk, off, none⟩ : Addr).add j = ⟨bk, off + j, none⟩ from by
      cases j with
      | zero => rfl
      | succ j => simp [Addr.add]]
    exact hc j _ (List.getElem?_eq_getElem hj)


theorem below_appended {w X Y : World} {e : TypeId} {size : Nat} {v : Value} {k : Nat} {xs : List Value} {tmp : Obj} (hb : Below w.heap.size w X) (hrow : X.ownsRow w.heap.size e size v k xs) (hg : (X.alloc tmp).grownBy Y v.ownBlock) : Below w.heap.size w Y :=
  (hb.alloc hb.size tmp).grown hg (by have := hb.size; simp; omega) (fun j ej => (hrow.lt j ej).1)
theorem i64_and3 (n : Int) : bits .and .i64 n 3 = n % 4 := i64_mask 2 3 rfl (by decide) n
theorem rightB_two (l : List Int) : ∀ p ∈ two l, rightB p = true := fun p hp => by
  unfold two at hp
  obtain ⟨n, _, h⟩ := List.mem_flatMap.1 hp
  simp at h
  rcases h with rfl | rfl <;> decide

set_option maxRecDepth 100000 in
set_option maxHeartbeats 4000000 in
theorem textEnds_main (w : World) (hT : Tabs w.heap.size w) (v : Value) (l : List Int) (hI : IntsAt w.heap.size w v l) (hlt : l.length ≤ 200) :
    Calls Tryd.prog 4 #[v] w fun e w' => e = .returned (.bool true) ∧ Below w.heap.size w w' := by
  have h0 := alive_any w hT
  obtain ⟨i0, hi, hz0, hz1, hz2⟩ := info_parts infoByte
  have hi200 : ¬ (200 : Int) < l.length := by omega
  have step : ∀ {x y : World}, Below w.heap.size w x → Below x.heap.size x y → Below w.heap.size w y := fun a b => a.trans (b.mono a.size)
  obtain ⟨p, cap, hv⟩ := hI.len
  subst hv
  go_enter Tryd.func4, Tryd.ntmps4
  go_wp2_with fail
  refine h0.mono ?_
  rintro e w1 ⟨rfl, b1⟩
  clear h0
  have I1 := (hI.below b1).mono b1.size
  have T1 := (hT.below b1).mono b1.size
  clear hI hT
  go_wp2
  go_loopw [4, 5] (fun o i wr => ∃ k : Nat, i = .int .i64 k ∧ k ≤ l.length ∧ wr.ownsRow w1.heap.size 5 1 o (lines (l.take k)).length (ubytes (lines (l.take k))) ∧ Below w1.heap.size w1 wr)
    (fun _ i _ => l.length - (intOf i).toNat)
  case atStart => exact ⟨0, rfl, Nat.zero_le _, World.ownsRow_nil _ _ _ _, Below.refl _ _⟩
  case round =>
    obtain ⟨k, rfl, hk, hrow, hb⟩ := hrel
    by_cases hkl : k < l.length
    · obtain ⟨bk, off, hp, hbk, hcells⟩ : ∃ bk off, p = some ⟨bk, off, none⟩ ∧ bk < w1.heap.size ∧ ∀ j u, l[j]? = some u → w1.cell? ⟨bk, off + j, none⟩ = some (.int .i64 u) := by
        rcases I1.cases with ⟨rfl, _⟩ | ⟨bk, off, c, e, e1, e2, e3, h⟩
        · simp at hkl
        · cases e; exact ⟨bk, off, rfl, e3, h⟩
      subst hp
      have c0 := hcells k _ (List.getElem?_eq_getElem hkl)
      have hlen := lines_len (l.take k)
      have htl : (l.take k).length = k := by simp; omega
      rw [htl] at hlen
      have HT0 : lines (l.take (k + 1)) = lines (l.take k) ++ endOf l[k] := by
        rw [List.take_succ_eq_append_getElem hkl, lines_snoc]
      have hki : (k : Int) < (l.length : Int) := by omega
      have hsz := hb.size
      have m3 := i64_and3
      clear hcells I1 T1 htl
      generalize l[k] = u at *
      by_cases q0 : u % 4 = 0
      · have HT : Hid (lines (l.take (k + 1)) = lines (l.take k) ++ [120, 10]) := by
          show _ = _
          rw [HT0]; unfold endOf; rw [if_pos q0]
        clear HT0
        have K1 : Hid True := trivial
        have K2 : Hid True := trivial
        go_wp2_with (first
          | (at_builtin; have _ := K1; refine wpList_append_own _ rfl _ _ 22 rfl w1.heap.size 5 i0 (.int .u8 0) 1 1 Tryd.underlying22 hi hz0 hz1 hz2 rfl (by decide) _ _ _ rfl (hrow.alloc _) ⟨wr.heap.size, 0, none⟩ 1 1 [.int .u8 120] rfl rfl (cells_new _ [.int .u8 120] _) (fun x hx => by simp at hx; rcases hx with rfl <;> rfl) (by unfold maxLen; omega) (by omega) (by simp; omega) ?_; clear K1; intro v2 w2 hown2 hgrow2 hnil2; have hb2 : Below w1.heap.size w1 w2 := below_appended hb hrow hgrow2; have hsz2 := hb2.size; have c2 := (hb2.cell (p := ⟨bk, off + k, none⟩) hbk).trans c0)
          | (at_builtin; have _ := K2; refine wpList_append_own _ rfl _ _ 22 rfl w1.heap.size 5 i0 (.int .u8 0) 1 1 Tryd.underlying22 hi hz0 hz1 hz2 rfl (by decide) _ _ _ rfl (hown2.alloc _) ⟨w2.heap.size, 0, none⟩ 1 1 [.int .u8 10] rfl rfl (cells_new _ [.int .u8 10] _) (fun x hx => by simp at hx; rcases hx with rfl <;> rfl) (by unfold maxLen; omega) (by omega) (by simp; omega) ?_; clear K2; intro v3 w3 hown3 hgrow3 hnil3))
        have hb3 : Below w1.heap.size w1 w3 := below_appended hb2 hown2 hgrow3
        refine ⟨⟨k + 1, by go_num, by omega, ?_, hb3⟩, by simp [intOf]; omega⟩
        rw [show lines (l.take (k + 1)) = _ from HT, ubytes_append, List.length_append]
        simpa [ubytes] using hown3
      · have e0 : (u % 4 == 0) = false := by rw [beq_eq_false_iff_ne]; exact q0
        by_cases q1 : u % 4 = 1
        · have HT : Hid (lines (l.take (k + 1)) = lines (l.take k) ++ [120, 13]) := by
            show _ = _
            rw [HT0]; unfold endOf; rw [if_neg q0, if_pos q1]
          clear HT0
          have K1 : Hid True := trivial
          have K2 : Hid True := trivial
          go_wp2_with (first
            | (at_builtin; have _ := K1; refine wpList_append_own _ rfl _ _ 22 rfl w1.heap.size 5 i0 (.int .u8 0) 1 1 Tryd.underlying22 hi hz0 hz1 hz2 rfl (by decide) _ _ _ rfl (hrow.alloc _) ⟨wr.heap.size, 0, none⟩ 1 1 [.int .u8 120] rfl rfl (cells_new _ [.int .u8 120] _) (fun x hx => by simp at hx; rcases hx with rfl <;> rfl) (by unfold maxLen; omega) (by omega) (by simp; omega) ?_; clear K1; intro v2 w2 hown2 hgrow2 hnil2; have hb2 : Below w1.heap.size w1 w2 := below_appended hb hrow hgrow2; have hsz2 := hb2.size; have c2 := (hb2.cell (p := ⟨bk, off + k, none⟩) hbk).trans c0)
            | (at_builtin; have _ := K2; refine wpList_append_own _ rfl _ _ 22 rfl w1.heap.size 5 i0 (.int .u8 0) 1 1 Tryd.underlying22 hi hz0 hz1 hz2 rfl (by decide) _ _ _ rfl (hown2.alloc _) ⟨w2.heap.size, 0, none⟩ 1 1 [.int .u8 13] rfl rfl (cells_new _ [.int .u8 13] _) (fun x hx => by simp at hx; rcases hx with rfl <;> rfl) (by unfold maxLen; omega) (by omega) (by simp; omega) ?_; clear K2; intro v3 w3 hown3 hgrow3 hnil3))
          have hb3 : Below w1.heap.size w1 w3 := below_appended hb2 hown2 hgrow3
          refine ⟨⟨k + 1, by go_num, by omega, ?_, hb3⟩, by simp [intOf]; omega⟩
          rw [show lines (l.take (k + 1)) = _ from HT, ubytes_append, List.length_append]
          simpa [ubytes] using hown3
        · have e1 : (u % 4 == 1) = false := by rw [beq_eq_false_iff_ne]; exact q1
          by_cases q2 : u % 4 = 2
          · have HT : Hid (lines (l.take (k + 1)) = lines (l.take k) ++ [120, 12]) := by
              show _ = _
              rw [HT0]; unfold endOf; rw [if_neg q0, if_neg q1, if_pos q2]
            clear HT0
            have K1 : Hid True := trivial
            have K2 : Hid True := trivial
            go_wp2_with (first
              | (at_builtin; have _ := K1; refine wpList_append_own _ rfl _ _ 22 rfl w1.heap.size 5 i0 (.int .u8 0) 1 1 Tryd.underlying22 hi hz0 hz1 hz2 rfl (by decide) _ _ _ rfl (hrow.alloc _) ⟨wr.heap.size, 0, none⟩ 1 1 [.int .u8 120] rfl rfl (cells_new _ [.int .u8 120] _) (fun x hx => by simp at hx; rcases hx with rfl <;> rfl) (by unfold maxLen; omega) (by omega) (by simp; omega) ?_; clear K1; intro v2 w2 hown2 hgrow2 hnil2; have hb2 : Below w1.heap.size w1 w2 := below_appended hb hrow hgrow2; have hsz2 := hb2.size; have c2 := (hb2.cell (p := ⟨bk, off + k, none⟩) hbk).trans c0)
              | (at_builtin; have _ := K2; refine wpList_append_own _ rfl _ _ 22 rfl w1.heap.size 5 i0 (.int .u8 0) 1 1 Tryd.underlying22 hi hz0 hz1 hz2 rfl (by decide) _ _ _ rfl (hown2.alloc _) ⟨w2.heap.size, 0, none⟩ 1 1 [.int .u8 12] rfl rfl (cells_new _ [.int .u8 12] _) (fun x hx => by simp at hx; rcases hx with rfl <;> rfl) (by unfold maxLen; omega) (by omega) (by simp; omega) ?_; clear K2; intro v3 w3 hown3 hgrow3 hnil3))
            have hb3 : Below w1.heap.size w1 w3 := below_appended hb2 hown2 hgrow3
            refine ⟨⟨k + 1, by go_num, by omega, ?_, hb3⟩, by simp [intOf]; omega⟩
            rw [show lines (l.take (k + 1)) = _ from HT, ubytes_append, List.length_append]
            simpa [ubytes] using hown3
          · have e2 : (u % 4 == 2) = false := by rw [beq_eq_false_iff_ne]; exact q2
            have HT : Hid (lines (l.take (k + 1)) = lines (l.take k) ++ [120, 13, 10]) := by
              show _ = _
              rw [HT0]; unfold endOf; rw [if_neg q0, if_neg q1, if_neg q2]
            clear HT0 q0 q1 q2
            have K1 : Hid True := trivial
            have K2 : Hid True := trivial
            go_wp2_with (first
              | (at_builtin; have _ := K1; refine wpList_append_own _ rfl _ _ 22 rfl w1.heap.size 5 i0 (.int .u8 0) 1 1 Tryd.underlying22 hi hz0 hz1 hz2 rfl (by decide) _ _ _ rfl (hrow.alloc _) ⟨wr.heap.size, 0, none⟩ 1 1 [.int .u8 120] rfl rfl (cells_new _ [.int .u8 120] _) (fun x hx => by simp at hx; rcases hx with rfl <;> rfl) (by unfold maxLen; omega) (by omega) (by simp; omega) ?_; clear K1; intro v2 w2 hown2 hgrow2 hnil2; have hb2 : Below w1.heap.size w1 w2 := below_appended hb hrow hgrow2; have hsz2 := hb2.size; have c2 := (hb2.cell (p := ⟨bk, off + k, none⟩) hbk).trans c0)
              | (at_builtin; have _ := K2; refine wpList_append_own _ rfl _ _ 22 rfl w1.heap.size 5 i0 (.int .u8 0) 1 1 Tryd.underlying22 hi hz0 hz1 hz2 rfl (by decide) _ _ _ rfl (hown2.alloc _) ⟨w2.heap.size, 0, none⟩ 2 2 [.int .u8 13, .int .u8 10] rfl rfl (cells_new _ [.int .u8 13, .int .u8 10] _) (fun x hx => by simp at hx; rcases hx with rfl | rfl <;> rfl) (by unfold maxLen; omega) (by omega) (by simp; omega) ?_; clear K2; intro v3 w3 hown3 hgrow3 hnil3))
            have hb3 : Below w1.heap.size w1 w3 := below_appended hb2 hown2 hgrow3
            refine ⟨⟨k + 1, by go_num, by omega, ?_, hb3⟩, by simp [intOf]; omega⟩
            rw [show lines (l.take (k + 1)) = _ from HT, ubytes_append, List.length_append]
            simpa [ubytes] using hown3
    · have hki : ¬ (k : Int) < (l.length : Int) := by omega
      have he : l.take k = l := List.take_of_length_le (by omega)
      rw [he] at hrow
      have hlen := lines_len l
      have hpl : prep (ipts (lines l)) = two l := prep_lines l false
      have B2 := BytesAt.of_owns hrow rfl
      have c2 := prepare_any _ (lines l) wr B2 ((T1.below hb).mono hb.size) (by omega)
      rw [hpl] at c2
      clear he hpl hrow B2
      go_wp2_with fail
      refine c2.mono ?_
      clear c2
      rintro e w2 ⟨v2, rfl, r2, b2⟩
      have I2 := IntsAt.of_owns r2 rfl
      have htwo := two_length l
      have hat := two_at l
      have bb2 : Below w.heap.size w w2 := step (step b1 hb) b2
      obtain ⟨p2, cap2, rfl⟩ := I2.len
      clear r2 T1 I1 b1 hb b2
      rw [htwo]
      have hlen2 : (((2 * l.length : Nat) : Int) != 2 * (l.length : Int)) = false := by
        rw [bne_eq_false_iff_eq]
        omega
      go_wp2
      go_loop [7] (fun i => ∃ q : Nat, i = .int .i64 q ∧ q ≤ l.length) (fun i => l.length - (intOf i).toNat)
      case atStart => exact ⟨0, rfl, Nat.zero_le _⟩
      case round =>
        obtain ⟨q, rfl, hq⟩ := hrel
        by_cases hql : q < l.length
        · obtain ⟨bk, off, hp, hcells⟩ : ∃ bk off, p2 = some ⟨bk, off, none⟩ ∧ ∀ j u, (two l)[j]? = some u → w2.cell? ⟨bk, off + j, none⟩ = some (.int .i64 u) := by
            rcases I2.cases with ⟨h, _⟩ | ⟨bk, off, c, e, e1, e2, e3, h⟩
            · rw [h] at htwo
              simp at htwo
              omega
            · simp only [Value.slice.injEq] at e
              exact ⟨bk, off, e.1, h⟩
          subst hp
          obtain ⟨a1, a2⟩ := hat q hql
          have d1 := hcells _ _ a1
          have d2 := hcells _ _ a2
          have hqi : (q : Int) < (l.length : Int) := by omega
          have hq1 : 2 * (q : Int) < 2 * (l.length : Int) := by omega
          have hq2 : 2 * (q : Int) + 1 < 2 * (l.length : Int) := by omega
          clear hcells a1 a2 I2 hat htwo
          go_wp2
          exact ⟨⟨q + 1, by go_num, by omega⟩, by simp [intOf]; omega⟩
        · have hqi : ¬ (q : Int) < (l.length : Int) := by omega
          have hll : (two l).length ≤ 1000000 := by omega
          have J2 : IntsAt w2.drew.heap.size w2.drew (.slice p2 (two l).length cap2) (two l) := I2
          have c9 := (bytes_any _ (two l) w2.drew J2 hll).mono (R' := fun e w' => ∃ v9, e = .returned v9 ∧ (convert 22 9 v9).run Tryd.prog w' = .ok (.string ⟨(encs (two l)).toArray⟩) w' ∧ Hid (BytesAt w'.heap.size w' v9 (encs (two l))) ∧ Hid (Below w2.heap.size w2 w')) (fun e w' ⟨v9, he, r9, b9⟩ =>
            ⟨v9, he, conv_str (BytesAt.of_owns r9 rfl), BytesAt.of_owns r9 rfl, below_of_drew b9⟩)
          have c10 : ∀ (X : World) (v9 : Value), Hid (BytesAt X.heap.size X v9 (encs (two l))) → Hid (Below w2.heap.size w2 X) → Calls Tryd.prog 10 #[.slice p2 (2 * l.length) cap2] X fun e w' => ∃ v10, e = .returned v10 ∧ (convert 22 9 v10).run Tryd.prog w' = .ok (.string ⟨(encs (two l)).toArray⟩) w' ∧ (convert 22 9 v9).run Tryd.prog w' = .ok (.string ⟨(encs (two l)).toArray⟩) w' ∧ Hid (Below w2.heap.size w2 w') := fun X v9 hb9 hbx => by
            have hbx' : Below w2.heap.size w2 X := hbx
            have hb9' : BytesAt X.heap.size X v9 (encs (two l)) := hb9
            have := refBytes_any _ (two l) X ((I2.below hbx').mono hbx'.size) hll
            rw [htwo] at this
            exact this.mono (fun e w' ⟨v10, he, r10, b10⟩ => ⟨v10, he, conv_str (BytesAt.of_owns r10 rfl), conv_str (hb9'.below b10), hbx'.trans (b10.mono hbx'.size)⟩)
          rw [htwo] at c9
          have C10 : Hid _ := c10
          generalize (⟨(encs (two l)).toArray⟩ : ByteArray) = x at *
          clear I2 J2 hat htwo c10 hll
          go_upto_region 25 with fail
          go_cut [2] (fun s2 wx => s2 = .bool true ∧ Below w2.heap.size w2 wx)
          case first =>
            go_region_with (first
              | (go_at_call 9; refine c9.mono ?_; rintro e w5 ⟨v5, rfl, E5, H5, b5⟩)
              | (go_at_call 10; refine ((show ∀ _ _, _ from C10) _ v5 H5 b5).mono ?_; rintro e w6 ⟨v6, rfl, E6, E7, b6⟩))
            all_goals clear c9 C10 E5 E6 E7 H5 b5 step hlen2 hlen hi200 hlt hqi hki bb2
            all_goals simp only [List.getElem_toArray, List.getElem_cons_succ, List.getElem_cons_zero, Act.put, List.setIfInBounds_toArray, List.set_cons_succ, List.set_cons_zero]
            all_goals (go_wp2_with fail; go_meet; exact ⟨rfl, b6⟩)
          case rest =>
            obtain ⟨rfl, b6⟩ := hcut
            have hbb := step bb2 b6
            clear c9 C10
            go_wp2
            go_ret
            exact ⟨rfl, hbb⟩

set_option maxRecDepth 100000 in
set_option maxHeartbeats 2000000 in
theorem textEnds_walk (w : World) (hT : Tabs w.heap.size w) (v : Value) (l : List Int) (hI : IntsAt w.heap.size w v l) :
    Calls Tryd.prog 4 #[v] w fun e w' => e = .returned (.bool true) ∧ Below w.heap.size w w' := by
  by_cases hlt : l.length ≤ 200
  · exact textEnds_main w hT v l hI hlt
  · have h0 := alive_any w hT
    have hi : (200 : Int) < l.length := by omega
    obtain ⟨p, cap, hv⟩ := hI.len
    subst hv
    clear hI hT
    go_enter Tryd.func4, Tryd.ntmps4
    go_wp2_with fail
    refine h0.mono ?_
    rintro e w1 ⟨rfl, b1⟩
    clear h0
    go_wp2
    go_ret
    exact ⟨rfl, b1⟩

theorem textEnds_met (os : Os) : laidMet Tryd.prog Rows.textEndsRow.laid ((laidIn (World.holding Tryd.prog os ⟨#[], #[], []⟩)).forCall (fun _ _ => 0) ⟨#[], #[.slice none 0 0], []⟩).memory :=
  laidMet_of_run' 8 (by kernel_rfl) (by kernel_rfl)
theorem textEnds_reads (os : Os) {H : Type} (enc : TypeId × Value → H) : ∃ places, DataW.whole enc Tryd.prog ((laidIn (World.holding Tryd.prog os ⟨#[], #[], []⟩)).forCall (fun _ _ => 0) ⟨#[], #[.slice none 0 0], []⟩).memory Tryd.f4.params.toList Rows.textEndsSpec.vars false (#[.slice none 0 0] : Array Value).toList 8 = some ([.nil], [], places) :=
  ⟨[], by kernel_rfl⟩

set_option maxRecDepth 100000 in
theorem textEnds_lifted (os : Os) (started : os.Started) (H : Type) (enc : TypeId × Value → H) (F : Stop.Interp) :
    ReturnsInHanded {} Tryd.checked os 4 .any ((OpenSpec.ofChange Rows.textEndsSpec).preRow enc Tryd.prog Tryd.f4 Rows.textEndsRow.domain false Rows.textEndsRow.laid) (((OpenSpec.ofChange Rows.textEndsSpec).at F).post enc Tryd.prog Tryd.f4 false true false false) := by
  obtain ⟨places, hx⟩ := textEnds_reads os enc
  refine returnsInHanded_of_row (C := Tryd.checked) (s := OpenSpec.ofChange Rows.textEndsSpec) ownNone started (by kernel_rfl) Tryd.func4
    (witness_row_at (enc := enc) (C := Tryd.checked) false (laidIn (World.holding Tryd.prog os ⟨#[], #[], []⟩)) #[.slice none 0 0] rfl (by kernel_rfl) (by kernel_rfl) (by kernel_rfl)
      (OpenSpec.preRow_of_cond 8 hx (by kernel_rfl) (fun k hk => by cases hk) (by kernel_rfl) (textEnds_met os))) ?_
  intro W base args ds gs before hval hW _ _ _ hL _ _
  have hW' := hW
  obtain ⟨p, q, hA0, hV, rfl, hfz, hnd⟩ := hW
  have hA : DataW.TrodAll enc Tryd.prog W 0 (fun _ => true) true Tryd.f4.params.toList args.toList ds p := hA0
  rw [Tryd.params4] at hA hval
  obtain ⟨v0, vs0, d0, ds0, p0, q0, hargs, rfl, rfl, h0, r0⟩ := trodAll_cons hA
  obtain ⟨rfl, rfl, rfl⟩ := trodAll_nil r0
  obtain rfl : args = #[v0] := by cases args; simp_all
  obtain ⟨rfl, rfl⟩ := trodVars_none hV
  obtain ⟨a0, len0, cap0, rfl⟩ := okWide_slice Tryd.underlying25 (hval 0 25 v0 rfl rfl)
  have k0 := h0
  have lt0 : ∀ x ∈ p0, x.block < W.heap.size := by obtain ⟨m, hm⟩ := k0; exact DataW.trod_lt m _ _ _ hm
  obtain ⟨z0, w0⟩ := intsAt_of_reads k0
  clear hA0
  refine (textEnds_walk W (tabs_of_laid hL) _ z0 w0).mono fun e W' ⟨he, bel⟩ => ?_
  subst he
  exact ⟨_, rfl, _, _, _, [], _, [], hW', trodAll_mk1 (shut_bool Tryd.underlying4 _), (trodAll_cons_mk (Below.trod laidOut (by kernel_rfl) (of_decide_eq_true (by kernel_rfl)) k0 bel lt0) trodAll_mk0), rfl, bel.frame _, fun h => by cases h⟩

theorem textEnds_said : Rows.TextEndsSaid :=
  OpenClaim.holds_of_cond 4 Tryd.f4 rfl rfl rfl rfl rfl rfl rfl ⟨rfl, rfl, rfl, rfl, rfl⟩ rfl rfl rfl rfl rfl (by kernel_rfl) Tryd.func4 (by kernel_rfl)
    (of_decide_eq_true (by kernel_rfl)) (by unfold Func.isWrapper; first | (rw [if_pos (by decide +kernel)]; kernel_rfl) | (rw [if_neg (by decide +kernel)]; exact ⟨rfl, rfl⟩))
    (fun os started H enc _ F => by rw [OpenClaim.pre_eq_preRow]; exact textEnds_lifted os started H enc F)

theorem textEnds_plain (f : FuncId) (fn : Func) (hf : Tryd.pinned.checked.prog.funcNamed "tapestrier/tapestrierlaw1.TextEnds" = some f) (hfn : Tryd.pinned.checked.prog.funcs[f]? = some fn) :
    false = Tryd.pinned.checked.prog.looks [] ∧ ∀ (j : Nat) t, fn.params[j]? = some t → Tryd.pinned.checked.prog.wantsStandIn t = false := by
  obtain rfl : f = 4 := Option.some.inj ((show Tryd.prog.funcNamed "tapestrier/tapestrierlaw1.TextEnds" = some 4 by kernel_rfl).symm.trans hf) |>.symm
  obtain rfl : fn = Tryd.f4 := (Option.some.inj (Tryd.func4.symm.trans hfn)).symm
  refine ⟨by kernel_rfl, fun j t ht => ?_⟩
  rw [Tryd.params4] at ht
  have hm : t ∈ [25] := by simpa using Array.mem_of_getElem? ht
  have hall : ([25].all fun u => !Tryd.prog.wantsStandIn u) = true := by kernel_rfl
  exact (show Tryd.prog.wantsStandIn t = false by simpa using List.all_eq_true.1 hall t hm)

theorem textEnds_card : Rows.TextEndsCardSaid :=
  Claim7.holds_tied_plain_at .later [] _ _ _ _ textEnds_said (fun _ h => by cases h) (by kernel_rfl) (fun _ h => by cases h) textEnds_row_tie rfl ⟨rfl, rfl⟩ (by kernel_rfl) rfl textEnds_plain (by kernel_rfl)
#print axioms textEnds_card

end Go.Proofs.YtpbgefgoccmncabDoor
