/- For every row of pushes and pops and every hash: the law tapestrierlaw13.BloomPlays returns true and leaves its arguments as they were; no condition. -/
import Derived.Test.YteklgelmakbmcaaBlMay
import Derived.Test.YteklgelmakbmcaaBlRef
import Derived.Test.YteklgelmakbmcaaBlArgs
namespace Go.Proofs.Yteklgelmakbmcaa
open Go.Proofs.Yteklgelmakbmcaa.Tre
open Go Go.ChangeShapes Go.WideShapes Go.ChangeAt Go.RowKit Bl Wg

theorem ActsR.get {w : World} {p : Option Addr} {m cap : Nat} {l : List (Bool × List Int)} (h : ActsR w (.slice p m cap) l) {i : Nat} {r : Bool × List Int} (hi : l[i]? = some r) :
    ∃ b off q c, p = some ⟨b, off, none⟩ ∧ (∀ X, Below w.heap.size w X → X.cell? ⟨b, off + i * 2, none⟩ = some (.bool r.1) ∧ X.cell? ⟨b, off + i * 2 + 1, none⟩ = some (.slice q r.2.length c)) ∧ IntsR w (.slice q r.2.length c) r.2 ∧ r.2.length ≤ maxLen := by
  obtain ⟨b, off, c, e, hlt, _, _, _, ⟨x, rfl, hx⟩, hc⟩ := RowT.get h hi
  obtain ⟨q, c, rfl⟩ := hx.len
  exact ⟨b, off, q, c, e, fun X hb => ⟨(hb.cell (p := ⟨b, off + i * 2, none⟩) hlt).trans (hc 0 _ rfl), (hb.cell (p := ⟨b, off + i * 2 + 1, none⟩) hlt).trans (hc 1 _ rfl)⟩, hx, hx.short⟩

theorem zero_cells_ref : Try.zeroCells45 = Array.replicate 1024 (.int .i64 0) := by kernel_rfl
theorem RFltAt.zero (w : World) : RFltAt (w.alloc (.cells Try.zeroCells45 45)) w.heap.size (fun _ => 0) := by
  refine ⟨⟨Try.zeroCells45, World.alloc_heap_new w _, by rw [zero_cells_ref]; simp, fun i hi => ?_⟩, fun _ => Nat.zero_le _⟩
  rw [zero_cells_ref, Array.getElem?_replicate, if_pos hi]; rfl
/-- The law's three filters. -/
structure Pl (w : World) (f : Nat) (c co : Nat → Nat) (X : World) : Prop where
  flt : FltAt X f c
  other : FltAt X (f + 1) co
  ref : RFltAt X (f + 2) c
  low : w.heap.size ≤ f
  below : Below w.heap.size w X
theorem ints_later {w X : World} {v : Value} {l : List Int} (hl : IntsR w v l) (hb : Below w.heap.size w X) : IntsR X v l := by
  by_cases h0 : l = []
  · subst h0; obtain ⟨p, c, rfl⟩ := hl.len; exact .inl ⟨rfl, _, _, rfl⟩
  · exact hl.kept (fun r hr => hb.block r (hl.lt h0 hr))
theorem Pl.lt {w : World} {f : Nat} {c co : Nat → Nat} {X : World} (h : Pl w f c co X) : f + 2 < X.heap.size := h.ref.lt
theorem Pl.otherPush {w : World} {f : Nat} {c co : Nat → Nat} {X : World} (hh : Pl w f c co X) (i : Int) :
    Calls Try.prog 18 #[.pointer (some ⟨f + 1, 0, none⟩), .slice (some ⟨X.heap.size, 0, none⟩) 1 1] (X.alloc (.cells #[.int .i64 i] 3)) fun e w' => (∃ u, e = .returned u) ∧ Pl w f c (pushV co [i]) w' := by
  have hlt := hh.lt
  have hlo := hh.low
  refine Calls.mono (push_any (f + 1) co _ _ _ (hh.other.kept (Below.heap_alloc _ _ _ (by omega))) (one_new X i) (fun r hr _ => by simp [Value.ownBlock] at hr; omega)) ?_
  rintro e w' ⟨hu, hf, fr⟩
  have hs := hh.below.size
  have al : ∀ r, r ≠ f + 1 → r < X.heap.size → w'.heap[r]? = X.heap[r]? := fun r h1 h2 => (fr.block r (by simp; omega) h1).trans (Below.heap_alloc _ _ _ h2)
  exact ⟨hu, hh.flt.kept (al f (by omega) (by omega)), hf, hh.ref.kept (al (f + 2) (by omega) (by omega)), hh.low, (hh.below.alloc (by omega) _).trans (fr.below (by simp; omega) (fun r (e : r = f + 1) => by omega))⟩
/-- A push or a pop, half done: the document's is still to come. -/
structure Half (w : World) (f : Nat) (c c' co : Nat → Nat) (X : World) : Prop where
  flt : FltAt X f c'
  other : FltAt X (f + 1) co
  ref : RFltAt X (f + 2) c
  low : w.heap.size ≤ f
  below : Below w.heap.size w X
theorem Pl.push {w : World} {f : Nat} {c co : Nat → Nat} {X : World} (hh : Pl w f c co X) {v : Value} {l : List Int} (hl : IntsR w v l) :
    Calls Try.prog 18 #[.pointer (some ⟨f, 0, none⟩), v] X fun e w' => (∃ u, e = .returned u) ∧ Half w f c (pushV c l) co w' := by
  have hlt := hh.lt
  have hlo := hh.low
  refine Calls.mono (push_any f c v l X hh.flt (ints_later hl hh.below) (fun r hr h0 => by have := hl.lt h0 hr; omega)) ?_
  rintro e w' ⟨hu, hf, fr⟩
  exact ⟨hu, hf, hh.other.kept (fr.block _ (by omega) (by omega)), hh.ref.kept (fr.block _ (by omega) (by omega)), hh.low, hh.below.trans (fr.below hh.below.size (fun r (e : r = f) => by omega))⟩
theorem Pl.pop {w : World} {f : Nat} {c co : Nat → Nat} {X : World} (hh : Pl w f c co X) {v : Value} {l : List Int} (hl : IntsR w v l) :
    Calls Try.prog 19 #[.pointer (some ⟨f, 0, none⟩), v] X fun e w' => (∃ u, e = .returned u) ∧ Half w f c (popV c l) co w' := by
  have hlt := hh.lt
  have hlo := hh.low
  refine Calls.mono (pop_any f c v l X hh.flt (ints_later hl hh.below) (fun r hr h0 => by have := hl.lt h0 hr; omega)) ?_
  rintro e w' ⟨hu, hf, fr⟩
  exact ⟨hu, hf, hh.other.kept (fr.block _ (by omega) (by omega)), hh.ref.kept (fr.block _ (by omega) (by omega)), hh.low, hh.below.trans (fr.below hh.below.size (fun r (e : r = f) => by omega))⟩
theorem Half.push {w : World} {f : Nat} {c co : Nat → Nat} {X : World} {v : Value} {l : List Int} (hh : Half w f c (pushV c l) co X) (hl : IntsR w v l) :
    Calls Try.prog 21 #[.pointer (some ⟨f + 2, 0, none⟩), v] X fun e w' => (∃ u, e = .returned u) ∧ Pl w f (pushV c l) co w' := by
  have hlt := hh.ref.lt
  have hlo := hh.low
  refine Calls.mono (refPush_any (f + 2) c v l X hh.ref (ints_later hl hh.below) (fun r hr h0 => by have := hl.lt h0 hr; omega)) ?_
  rintro e w' ⟨hu, hf, fr⟩
  exact ⟨hu, hh.flt.kept (fr.block _ (by omega) (by omega)), hh.other.kept (fr.block _ (by omega) (by omega)), hf, hh.low, hh.below.trans (fr.below hh.below.size (fun r (e : r = f + 2) => by omega))⟩
theorem Half.pop {w : World} {f : Nat} {c co : Nat → Nat} {X : World} {v : Value} {l : List Int} (hh : Half w f c (popV c l) co X) (hl : IntsR w v l) :
    Calls Try.prog 20 #[.pointer (some ⟨f + 2, 0, none⟩), v] X fun e w' => (∃ u, e = .returned u) ∧ Pl w f (popV c l) co w' := by
  have hlt := hh.ref.lt
  have hlo := hh.low
  refine Calls.mono (refPop_any (f + 2) c v l X hh.ref (ints_later hl hh.below) (fun r hr h0 => by have := hl.lt h0 hr; omega)) ?_
  rintro e w' ⟨hu, hf, fr⟩
  exact ⟨hu, hh.flt.kept (fr.block _ (by omega) (by omega)), hh.other.kept (fr.block _ (by omega) (by omega)), hf, hh.low, hh.below.trans (fr.below hh.below.size (fun r (e : r = f + 2) => by omega))⟩
theorem Pl.may {w : World} {f : Nat} {c co : Nat → Nat} {X : World} (hh : Pl w f c co X) (h : Int) :
    Calls Try.prog 22 #[.pointer (some ⟨f, 0, none⟩), .int .i64 h] X fun e w' => e = .returned (.bool (mayV c h)) ∧ Pl w f c co w' := by
  have hlt := hh.lt
  refine Calls.mono (may_any f c h X hh.flt) ?_
  rintro e w' ⟨rfl, hb⟩
  exact ⟨rfl, hh.flt.kept (hb.block _ (by omega)), hh.other.kept (hb.block _ (by omega)), hh.ref.kept (hb.block _ (by omega)), hh.low, hh.below.trans (hb.mono hh.below.size)⟩

set_option maxRecDepth 100000 in
set_option maxHeartbeats 4000000 in
theorem bloomPlays_walk (w : World) (v : Value) (l : List (Bool × List Int)) (hl : ActsR w v l) (h : Int) (_h1 : (Lit.int .i64 h).wf = true) :
    Calls Try.prog 4 #[v, .int .i64 h] w fun e w' => e = .returned (.bool true) ∧ Below w.heap.size w w' := by
  have hal := alive_any w
  obtain ⟨p, cap, rfl⟩ := RowT.len hl
  have HR : Hid (ActsR w (.slice p l.length cap) l) := hl
  have hmx := RowT.short hl
  unfold maxLen at hmx
  clear hl
  go_enter Try.func4, Try.ntmps4
  go_wp2_with fail
  go_at_call 9
  refine Calls.mono hal ?_
  clear hal _h1
  rintro e w1 ⟨rfl, b1⟩
  by_cases g1 : 60 < l.length
  · have d1 : decide (60 < l.length) = true := by simpa using g1
    have d1' : decide ((60 : Int) < (l.length : Int)) = true := by simp; omega
    clear g1
    go_wp2
    go_ret
    exact ⟨rfl, b1⟩
  have d1 : decide (60 < l.length) = false := by simpa using g1
  have d1' : decide ((60 : Int) < (l.length : Int)) = false := by simp; omega
  obtain ⟨W0, hW0⟩ : ∃ W0, ((w1.alloc (.cells Try.zeroCells41 41)).alloc (.cells Try.zeroCells41 41)).alloc (.cells Try.zeroCells45 45) = W0 := ⟨_, rfl⟩
  have S0 : Pl w w1.heap.size (fun _ => 0) (fun _ => 0) W0 := by
    rw [← hW0]
    have hs := b1.size
    refine ⟨?_, ?_, ?_, b1.size, ((b1.alloc b1.size _).alloc (by simp; omega) _).alloc (by simp; omega) _⟩
    · exact (FltAt.zero w1).kept ((Below.heap_alloc _ _ _ (by simp; omega)).trans (Below.heap_alloc _ _ _ (by simp)))
    · have := FltAt.zero (w1.alloc (.cells Try.zeroCells41 41))
      rw [World.size_alloc] at this
      exact this.kept (Below.heap_alloc _ _ _ (by simp))
    · have := RFltAt.zero ((w1.alloc (.cells Try.zeroCells41 41)).alloc (.cells Try.zeroCells41 41))
      rw [World.size_alloc, World.size_alloc] at this
      exact this
  have HS0 : Hid (Pl _ _ _ _ _) := S0
  clear g1 b1 S0
  go_wp2_with fail
  have S0 := HS0.out
  rw [show w1.heap.size + 1 + 1 = w1.heap.size + 2 from rfl]
  generalize w1.heap.size = f at *
  clear hW0 d1 d1' HS0
  obtain ⟨L, hL⟩ : ∃ L, l.length = L := ⟨_, rfl⟩
  rw [hL] at HR hmx ⊢
  have HL : Hid (l.length = L) := hL
  clear hL
  go_loopw [9] (fun x wr => ∃ (i : Nat) (c co : Nat → Nat), x = .int .i64 i ∧ i ≤ L ∧ Pl w f c co wr) (fun x _ => L - (intOf x).toNat)
  case atStart => exact ⟨0, _, _, rfl, Nat.zero_le _, S0⟩
  case round =>
    clear S0
    obtain ⟨i, c, co, rfl, hi, S⟩ := hrel
    have HS : Hid (Pl _ _ _ _ _) := S
    clear S
    by_cases hil : i < L
    · have hlt : decide (i < L) = true := by simpa using hil
      obtain ⟨⟨pop, r⟩, hr⟩ : ∃ r, l[i]? = some r := ⟨_, List.getElem?_eq_getElem (by have := HL.out; omega)⟩
      obtain ⟨b, off, q, cp, rfl, hcl, hint, hrl⟩ := ActsR.get HR.out hr
      unfold maxLen at hrl
      simp only at hcl hint hrl
      have HCL : Hid (∀ X, Below w.heap.size w X → X.cell? ⟨b, off + i * 2, none⟩ = some (.bool pop) ∧ X.cell? ⟨b, off + i * 2 + 1, none⟩ = some (.slice q r.length cp)) := hcl
      obtain ⟨e0, e1⟩ := hcl _ HS.out.below
      have HI : Hid (IntsR w (.slice q r.length cp) r) := hint
      clear hcl hint hr hi
      by_cases h20 : 300 < r.length
      · have d : decide (300 < r.length) = true := by simpa using h20
        have d' : decide ((300 : Int) < (r.length : Int)) = true := by simp; omega
        clear h20
        go_wp2
        go_ret
        exact ⟨rfl, HS.out.below⟩
      · have d : decide (300 < r.length) = false := by simpa using h20
        have d' : decide ((300 : Int) < (r.length : Int)) = false := by simp; omega
        have hp := HS.out.otherPush (i : Int)
        clear h20
        go_wp2_with fail
        go_at_call 18
        refine Calls.mono hp ?_
        clear hp d d' e0 e1 HS
        rintro e w2 ⟨⟨u, rfl⟩, S2⟩
        obtain ⟨e0, e1⟩ := HCL.out _ S2.below
        cases pop with
        | true =>
          have hp := S2.pop HI.out
          clear S2
          go_wp2_with fail
          go_at_call 19
          refine Calls.mono hp ?_
          clear hp e0 e1
          rintro e w3 ⟨⟨u, rfl⟩, S3⟩
          obtain ⟨e0, e1⟩ := HCL.out _ S3.below
          have hp := S3.pop HI.out
          clear S3
          go_wp2_with fail
          go_at_call 20
          refine Calls.mono hp ?_
          clear hp e0 e1
          rintro e w4 ⟨⟨u, rfl⟩, S4⟩
          generalize popV c r = c' at S4
          have hm := S4.may h
          go_wp2_with fail
          go_at_call 22
          refine Calls.mono hm ?_
          clear hm S4
          rintro e w5 ⟨rfl, S5⟩
          have hm := refMay_any (f + 2) c' h w5 S5.ref
          have HS5 : Hid (Pl _ _ _ _ _) := S5
          clear S5
          go_wp2_with fail
          go_at_call 23
          refine Calls.mono hm ?_
          clear hm
          rintro e w6 ⟨rfl, rfl⟩
          have hbb : (mayV c' h != mayV c' h) = false := by simp
          generalize mayV c' h = z at *
          go_wp2
          go_roundw
          case rel => exact ⟨i + 1, _, _, by go_num, by omega, HS5.out⟩
          case measure => simp [intOf] <;> omega
        | false =>
          have hp := S2.push HI.out
          clear S2
          go_wp2_with fail
          go_at_call 18
          refine Calls.mono hp ?_
          clear hp e0 e1
          rintro e w3 ⟨⟨u, rfl⟩, S3⟩
          obtain ⟨e0, e1⟩ := HCL.out _ S3.below
          have hp := S3.push HI.out
          clear S3
          go_wp2_with fail
          go_at_call 21
          refine Calls.mono hp ?_
          clear hp e0 e1
          rintro e w4 ⟨⟨u, rfl⟩, S4⟩
          generalize pushV c r = c' at S4
          have hm := S4.may h
          go_wp2_with fail
          go_at_call 22
          refine Calls.mono hm ?_
          clear hm S4
          rintro e w5 ⟨rfl, S5⟩
          have hm := refMay_any (f + 2) c' h w5 S5.ref
          have HS5 : Hid (Pl _ _ _ _ _) := S5
          clear S5
          go_wp2_with fail
          go_at_call 23
          refine Calls.mono hm ?_
          clear hm
          rintro e w6 ⟨rfl, rfl⟩
          have hbb : (mayV c' h != mayV c' h) = false := by simp
          generalize mayV c' h = z at *
          go_wp2
          go_roundw
          case rel => exact ⟨i + 1, _, _, by go_num, by omega, HS5.out⟩
          case measure => simp [intOf] <;> omega
    · have hlt : decide (i < L) = false := by simpa using hil
      clear hi hil
      go_wp2_with fail
      go_loopw [10] (fun x wr => ∃ k : Nat, x = .int .i64 k ∧ k ≤ 1024 ∧ Pl w f c co wr) (fun x _ => 1024 - (intOf x).toNat)
      case atStart => exact ⟨0, rfl, Nat.zero_le _, HS.out⟩
      case round =>
        clear HS
        obtain ⟨k, rfl, hk, S⟩ := hrel
        have HS : Hid (Pl _ _ _ _ _) := S
        clear S
        by_cases hkn : k < 1024
        · have hl1 : decide (k < 1024) = true := by simpa using hkn
          have hl2 : decide ((k : Int) < 1024) = true := by simp; omega
          have HC : Hid (∀ n, Calls Try.prog 24 #[.pointer (some ⟨f, 0, none⟩), .int .i64 (k : Int)] (wr.drewN n) fun e w' => e = .returned (.int .i64 (c k)) ∧ w' = wr.drewN n) := fun n => by
            have hc := count_any f c (k : Int) (wr.drewN n) (HS.out.flt.kept rfl)
            rwa [if_pos ⟨by omega, by omega⟩, Int.toNat_natCast] at hc
          obtain ⟨c1, _⟩ := HS.out.ref.cell hkn
          have hki : (k : Int) < 1024 := by omega
          have hcc : ((c k : Int) != (c k : Int)) = false := by simp
          clear hk
          go_wp2_with fail
          go_quiet ((go_at_call 24; exact Calls.quiet_of_same (HC.out _)))
          go_wp2
          go_roundw
          case rel => exact ⟨k + 1, by go_num, by omega, ⟨HS.out.flt.kept rfl, HS.out.other.kept rfl, HS.out.ref.kept rfl, HS.out.low, HS.out.below.trans ⟨rfl, rfl, rfl, Nat.le_refl _, fun _ _ => rfl⟩⟩⟩
          case measure => simp [intOf] <;> omega
        · have hl1 : decide (k < 1024) = false := by simpa using hkn
          have hl2 : decide ((k : Int) < 1024) = false := by simp; omega
          have hc := count_any f c (-1) wr HS.out.flt
          have hc2 := count_any f c 1024 wr HS.out.flt
          rw [if_neg (by omega)] at hc hc2
          clear hk hkn
          go_wp2_with fail
          go_at_call 24
          refine Calls.mono hc ?_
          clear hc
          rintro e w3 ⟨rfl, rfl⟩
          go_wp2_with fail
          go_at_call 24
          refine Calls.mono hc2 ?_
          clear hc2
          rintro e w4 ⟨rfl, rfl⟩
          go_wp2
          go_ret
          exact ⟨rfl, HS.out.below⟩


set_option maxRecDepth 100000 in
theorem bloomPlays_lifted (os : Os) (started : os.Started) (H : Type) (enc : TypeId × Value → H) :
    ReturnsInHanded {} Try.checked os 4 .any (Rows.bloomPlaysSpec.pre6 enc Try.prog Try.f4 Rows.bloomPlaysRow.domain false) (Rows.bloomPlaysSpec.post enc Try.prog Try.f4 false true false false) := by
  refine returnsInHanded_of_change_sized (C := Try.checked) ownNone started (by kernel_rfl) Try.func4
    (ChangeSpec.witness6 (enc := enc) (C := Try.checked) false ⟨#[], #[.slice none 0 0, .int .i64 0], []⟩ 8 (by kernel_rfl) (by kernel_rfl) (by kernel_rfl) (by kernel_rfl)) ?_
  intro W base args ds gs before hval hW _ hsz0 _
  have hW' := hW
  obtain ⟨p, q, hA0, hV, rfl, hfz, hnd⟩ := hW
  have hA : DataW.TrodAll enc Try.prog W 0 (fun _ => true) true Try.f4.params.toList args.toList ds p := hA0
  rw [Try.params4] at hA hval hsz0
  obtain ⟨v0, vs0, d0, ds0, p0, q0, hargs, rfl, rfl, h0, r0⟩ := trodAll_cons hA
  obtain ⟨v1, vs1, d1, ds1, p1, q1, rfl, rfl, rfl, h1, r1⟩ := trodAll_cons r0
  obtain ⟨rfl, rfl, rfl⟩ := trodAll_nil r1
  obtain rfl : args = #[v0, v1] := by cases args; simp_all
  obtain ⟨rfl, rfl⟩ := trodVars_none hV
  have hsz := List.all_eq_true.1 hsz0
  obtain ⟨a0, len0, cap0, rfl⟩ := okWide_slice Try.underlying38 (hval 0 38 v0 rfl rfl)
  have k0 := h0
  have lt0 : ∀ x ∈ p0, x.block < W.heap.size := by obtain ⟨m, hm⟩ := k0; exact DataW.trod_lt m _ _ _ hm
  obtain ⟨z0, w0⟩ := actsAt_of_reads k0 (fun n hn => by simpa using hsz n (DataW.weights_mem_each (j := 0) rfl rfl n hn))
  obtain ⟨a1, rfl, rfl, rfl, w1⟩ := open_int Try.underlying3 (hval 1 3 v1 rfl rfl) h1
  clear hA0
  refine (bloomPlays_walk W _ z0 w0 a1 w1).mono fun e W' ⟨he, bel⟩ => ?_
  subst he
  exact ⟨_, rfl, _, _, _, [], _, [], hW', trodAll_mk1 (shut_bool Try.underlying4 _), (trodAll_cons_mk (Below.trod laidOut (by kernel_rfl) (of_decide_eq_true (by kernel_rfl)) k0 bel lt0) (trodAll_cons_mk (shut_int Try.underlying3 w1) trodAll_mk0)), rfl, bel.frame _, fun h => by cases h⟩

theorem bloomPlays_said : Rows.BloomPlaysSaid :=
  OpenClaim.holds_of_wide 4 Try.f4 rfl rfl rfl rfl rfl rfl rfl ⟨rfl, rfl, rfl, rfl, rfl⟩ rfl rfl rfl rfl rfl (by kernel_rfl) Try.func4 (by kernel_rfl)
    (of_decide_eq_true (by kernel_rfl)) (by unfold Func.isWrapper; first | (rw [if_pos (by decide +kernel)]; kernel_rfl) | (rw [if_neg (by decide +kernel)]; exact ⟨rfl, rfl⟩))
    (fun os started H enc _ => bloomPlays_lifted os started H enc)
#print axioms bloomPlays_said

end Go.Proofs.Yteklgelmakbmcaa
