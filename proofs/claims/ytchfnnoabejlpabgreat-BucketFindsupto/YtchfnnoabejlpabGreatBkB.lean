/- Rows of numbers and of texts that a call owns: sorted, each once. -/
import Derived.Test.YtchfnnoabejlpabGreatBkA
import Derived.Test.YtchfnnoabejlpabGreatSlG
import Derived.Test.YtchfnnoabejlpabGreatShelf
import Derived.Sort.OwnSorted
import Derived.Sort.OwnSortedInts
import Derived.Lib.OwnBridge
import Derived.Test.YtchfnnoabejlpabGreatWgMem
import Derived.Test.YtchfnnoabejlpabGreatBsA
import Derived.RangeFuncBox
import Derived.RangeFuncKeeps
import Derived.Maps.OwnIn
import Derived.OwnWalkIn
import Derived.TacticsInMore
import Derived.LoopNIn
import Derived.LoopIn
import Derived.WalkKit
namespace Go.Proofs.YtchfnnoabejlpabGreat.Bk
open Go.Proofs.YtchfnnoabejlpabGreat.Tre
open Go Go.RowKit Go.Sort Go.Lib Sl

set_option maxRecDepth 100000 in
theorem sortI_any (base : Nat) (v : Value) (zs : List Int) (w : World) (h : w.ownsRow base 3 1 v zs.length (zs.map (Value.int .i64))) (hb : base ≤ w.heap.size) (hl : zs.length ≤ 1099511627776) :
    Calls Tryz.prog 18 #[v] w fun e w' => e = .returned (.tuple #[]) ∧ w'.ownsRow base 3 1 v zs.length ((zs.mergeSort fun x y => decide (x ≤ y)).map (Value.int .i64)) ∧ Below base w w' := by
  rcases h.2 with ⟨rfl, hn⟩ | ⟨g, cap, cur, rfl, hg, hb', hn, hm, hs, ht⟩
  · obtain rfl : zs = [] := List.eq_nil_of_length_eq_zero hn
    refine (Tryz.slices_Sort_int_none none 0 w).mono ?_
    rintro e w' ⟨rfl, rfl⟩
    exact ⟨rfl, by simpa using h, Below.refl _ _⟩
  · have hlt : g < w.heap.size := (Array.getElem?_eq_some_iff.1 hb').1
    refine (Tryz.slices_Sort_int g 0 cap zs w (holds_of_blockI hb' (by simpa using ht)) hlt (by omega)).mono ?_
    rintro e w' ⟨rfl, n, os, rfl⟩
    exact ⟨rfl, ownsRow_sortedI (by simp) hg hb' hn hm hs, (Below.refl _ _).grown (grownBy_sortedI _) hb (fun r e => by cases e; exact hg)⟩
set_option maxRecDepth 100000 in
theorem compactI_any (base : Nat) (v : Value) (zs : List Int) (w : World) (h : w.ownsRow base 3 1 v zs.length (zs.map (Value.int .i64))) (hb : base ≤ w.heap.size) (hl : zs.length ≤ 1099511627776) :
    Calls Tryz.prog 19 #[v] w fun e w' => ∃ v', e = .returned v' ∧ w'.ownsRow base 3 1 v' (Lib.compact zs).length ((Lib.compact zs).map (Value.int .i64)) ∧ Below base w w' := by
  rcases h.2 with ⟨rfl, hn⟩ | ⟨g, cap, cur, rfl, hg, hb', hn, hm, hs, ht⟩
  · obtain rfl : zs = [] := List.eq_nil_of_length_eq_zero hn
    refine (Tryz.slices_Compact_int_empty none 0 w).mono ?_
    rintro e w' ⟨rfl, rfl⟩
    exact ⟨_, rfl, h, Below.refl _ _⟩
  · refine (Tryz.slices_Compact_int g 0 cap zs w (holds_of_blockI hb' (by simpa using ht)) (by omega) hn).mono ?_
    have hle := Lib.compact_length_le zs
    rintro e w' ⟨rfl, q, rfl⟩
    refine ⟨_, rfl, ?_, Lib.below_putRow (Below.refl _ _) hg⟩
    have := Lib.ownsRow_putRow (q := q) (k := (Lib.compact zs).length) (ys := Lib.compact zs ++ List.replicate (zs.length - (Lib.compact zs).length) 0) h (by simp; omega) hle
    rwa [List.take_left] at this
/-- Texts as lists of bytes, and back. -/
def btL (l : List ByteArray) : List (List UInt8) := l.map (·.data.toList)
def btB (l : List (List UInt8)) : List ByteArray := l.map (fun x => ⟨x.toArray⟩)
theorem btB_enc (l : List (List UInt8)) : l.map encStr = (btB l).map Value.string := by
  rw [btB, List.map_map]
  rfl
theorem btL_enc (l : List ByteArray) : (btL l).map encStr = l.map Value.string := Lib.map_encStr l
theorem btB_mem {l : List (List UInt8)} {m : List ByteArray} (h : ∀ x, x ∈ l ↔ x ∈ btL m) (x : ByteArray) : x ∈ btB l ↔ x ∈ m := by
  unfold btB btL at *
  constructor
  · intro hx
    obtain ⟨y, hy, rfl⟩ := List.mem_map.1 hx
    obtain ⟨z, hz, rfl⟩ := List.mem_map.1 ((h y).1 hy)
    simpa using hz
  · intro hx
    exact List.mem_map.2 ⟨x.data.toList, (h _).2 (List.mem_map.2 ⟨x, hx, rfl⟩), by simp⟩
set_option maxRecDepth 100000 in
theorem sortS_any (base : Nat) (v : Value) (zs : List (List UInt8)) (w : World) (h : w.ownsRow base 9 1 v zs.length (zs.map encStr)) (hb : base ≤ w.heap.size) (hl : zs.length ≤ 1099511627776) :
    Calls Tryz.prog 51 #[v] w fun e w' => e = .returned (.tuple #[]) ∧ w'.ownsRow base 9 1 v zs.length ((zs.mergeSort fun x y => decide (x ≤ y)).map encStr) ∧ Below base w w' := by
  rcases h.2 with ⟨rfl, hn⟩ | ⟨g, cap, cur, rfl, hg, hb', hn, hm, hs, ht⟩
  · obtain rfl : zs = [] := List.eq_nil_of_length_eq_zero hn
    refine (Tryz.slices_Sort_string_none none 0 w).mono ?_
    rintro e w' ⟨rfl, rfl⟩
    exact ⟨rfl, by simpa using h, Below.refl _ _⟩
  · have hlt : g < w.heap.size := (Array.getElem?_eq_some_iff.1 hb').1
    refine (Tryz.slices_Sort_string g 0 cap zs w (holds_of_block hb' (by simpa using ht)) hlt (by omega)).mono ?_
    rintro e w' ⟨rfl, n, os, rfl⟩
    exact ⟨rfl, ownsRow_sorted (by simp) hg hb' hn hm hs, (Below.refl _ _).grown (grownBy_sorted _) hb (fun r e => by cases e; exact hg)⟩
set_option maxRecDepth 100000 in
theorem compactS_any (base : Nat) (v : Value) (zs : List (List UInt8)) (w : World) (h : w.ownsRow base 9 1 v zs.length (zs.map encStr)) (hb : base ≤ w.heap.size) (hl : zs.length ≤ 1099511627776) :
    Calls Tryz.prog 30 #[v] w fun e w' => ∃ v', e = .returned v' ∧ w'.ownsRow base 9 1 v' (Lib.compact zs).length ((Lib.compact zs).map encStr) ∧ Below base w w' := by
  rcases h.2 with ⟨rfl, hn⟩ | ⟨g, cap, cur, rfl, hg, hb', hn, hm, hs, ht⟩
  · obtain rfl : zs = [] := List.eq_nil_of_length_eq_zero hn
    refine (Tryz.slices_Compact_string_empty none 0 w).mono ?_
    rintro e w' ⟨rfl, rfl⟩
    exact ⟨_, rfl, h, Below.refl _ _⟩
  · refine (Tryz.slices_Compact_string g 0 cap zs w (holds_of_block hb' (by simpa using ht)) (by omega) hn).mono ?_
    have hle := Lib.compact_length_le zs
    rintro e w' ⟨rfl, q, rfl⟩
    refine ⟨_, rfl, ?_, Lib.below_putRow (Below.refl _ _) hg⟩
    have := Lib.ownsRow_putRow (q := q) (k := (Lib.compact zs).length) (ys := Lib.compact zs ++ List.replicate (zs.length - (Lib.compact zs).length) []) h (by simp; omega) hle
    rwa [List.take_left] at this

end Go.Proofs.YtchfnnoabejlpabGreat.Bk

/- slices.Values, slices.Collect and slices.Sorted over a slice of texts. -/
namespace Go.Proofs.YtchfnnoabejlpabGreat.Bk
open Go.Proofs.YtchfnnoabejlpabGreat.Tre
open Go Go.RowKit Go.Shelf Sl Wg
attribute [local go_sem] Oper.semAt_some

theorem infoS : (Tryz.prog.info? 9).map (fun i => (i.zero, i.size, i.bytes)) = some (some (.string ⟨#[]⟩), 1, 16) := by kernel_rfl
theorem info_ofS {e : TypeId} {z : Value} {s b : Nat} (h : (Tryz.prog.info? e).map (fun i => (i.zero, i.size, i.bytes)) = some (some z, s, b)) : ∃ i, Tryz.prog.info? e = some i ∧ i.zero = some z ∧ i.size = s ∧ i.bytes = b := by
  obtain ⟨i, hi, e⟩ := Option.map_eq_some_iff.1 h
  simp only [Prod.mk.injEq] at e
  exact ⟨i, hi, e.1, e.2.1, e.2.2⟩

set_option maxRecDepth 100000 in
set_option maxHeartbeats 1000000 in
theorem values1_in (n l Bt n₀ : Nat) (v : Value) (ss : List ByteArray) (J : List ByteArray → World → Prop) (W : World) (_hn₀ : n₀ ≤ W.heap.size) (_hBt : Bt < n₀) (hct : W.cell? ⟨Bt, 0, none⟩ = some v) (hS : RowT 1 StrC n₀ W v ss)
    (hY : ∀ pre x W1, J pre W1 → pre.length < ss.length → W.heap.size ≤ W1.heap.size → YieldAt Fence.wide (n - 1) Tryz.prog l #[.string x] W1 fun e W' => e = .returned (.bool true) ∧ J (pre ++ [x]) W' ∧ Below n₀ W1 W')
    (h0 : J [] W) :
    CallsIn Fence.wide n Tryz.prog 52 #[.func (.yield l) #[] #[], .pointer (some ⟨Bt, 0, none⟩)] W fun e W' => (∃ v, e = .returned v) ∧ ∃ xs, xs = ss ∧ J xs W' := by
  refine callsIn_of_wp Tryz.func52 rfl trivial ?_ rfl
  simp only [Tryz.ntmps52, List.size_toArray, List.length_cons, List.length_nil, Nat.reduceAdd, Nat.reduceSub, Array.replicate_succ, Array.replicate_zero, List.push_toArray, List.append_toArray, List.nil_append, List.cons_append]
  obtain ⟨q, cap, rfl⟩ := RowT.len hS
  have hsh := hS.short
  unfold maxLen at hsh
  have HS : Hid (RowT 1 StrC n₀ W (.slice q ss.length cap) ss) := hS
  clear hS
  gi_wp2
  gi_loopw [7] (fun x wr => ∃ k : Nat, x = .int .i64 k ∧ k ≤ ss.length ∧ J (ss.take k) wr ∧ Below n₀ W wr) (fun x _ => ss.length - (intOf x).toNat)
  case atStart => exact ⟨0, rfl, Nat.zero_le _, h0, Below.refl _ _⟩
  case round =>
    obtain ⟨k, rfl, hk, hJs, hb⟩ := hrel
    by_cases hlt : k < ss.length
    · have hki : (k : Int) < (ss.length : Int) := by omega
      obtain ⟨x, hx⟩ : ∃ x, ss[k]? = some x := ⟨_, List.getElem?_eq_getElem hlt⟩
      obtain ⟨g, off, cs, hq, hbn, hc1, hc2, _, hT, hcell⟩ := RowT.get (HS.out.below hb (T' := StrC) (fun _ _ h => h)) hx
      subst hq
      cases hT
      have y0 := hcell 0 _ rfl
      simp only [Nat.mul_one, Nat.add_zero] at y0
      unfold maxLen at hc2
      obtain ⟨fn, tmps, assign, body, hy, hR⟩ := hY (ss.take k) x wr hJs (by rw [List.length_take_of_le (by omega)]; exact hlt) hb.size
      have HT : Hid (ss.take k ++ [x] = ss.take (k + 1)) := by
        show _ = _
        obtain ⟨hk', rfl⟩ := List.getElem?_eq_some_iff.1 hx
        exact (List.take_succ_eq_append_getElem hk').symm
      have hsm : (k : Int) + 1 ≤ 9223372036854775807 := by omega
      clear hcell hx hY
      gi_wp2_with fail
      refine ⟨fun h => (by cases h), hR.mono ?_⟩
      rintro e w2 ⟨rfl, hJ2, hb2⟩
      rw [HT.out] at hJ2
      have hB2 := hb.trans hb2
      clear hR y0
      gi_wp2
      go_roundw
      case rel => exact ⟨k + 1, by go_num, by omega, hJ2, hB2⟩
      case measure => simp [intOf]; omega
    · have hki : ¬ (k : Int) < (ss.length : Int) := by omega
      rw [List.take_of_length_le (by omega)] at hJs
      clear hY
      gi_wp2
      go_end0
      exact ⟨⟨_, rfl⟩, hJs⟩
set_option maxRecDepth 100000 in
theorem values_any (v : Value) (w : World) (hv : v.oneCell' = true) :
    Calls Tryz.prog 32 #[v] w fun e w' => e = .returned (.func (.func 52) #[] #[.pointer (some ⟨w.heap.size, 0, none⟩)]) ∧ w' = w.alloc (.cells #[v] 34) := by
  go_enter Tryz.func32, Tryz.ntmps32
  go_wp2
  go_ret
  exact ⟨rfl, rfl⟩
theorem egVal : ∀ args w, (callFunc 52 args).run Tryz.prog w = .ok (.enter 52 args) w := enters_of Tryz.func52 (by kernel_rfl) rfl
theorem values_seq (n Bt n₀ : Nat) (v : Value) (ss : List ByteArray) (w : World) (hn₀ : n₀ ≤ w.heap.size) (hBt : Bt < n₀) (hct : w.cell? ⟨Bt, 0, none⟩ = some v) (hS : RowT 1 StrC n₀ w v ss) :
    SeqX Fence.wide n Tryz.prog 52 #[.pointer (some ⟨Bt, 0, none⟩)] (fun x : ByteArray => #[.string x]) n₀ (fun xs => xs = ss) ss.length 0 w := fun l J W hW _ hY h0 =>
  values1_in n l Bt n₀ v ss J W (Nat.le_trans hn₀ hW.size) hBt ((hW.cell (p := ⟨Bt, 0, none⟩) (Nat.lt_of_lt_of_le hBt hn₀)).trans hct) (hS.below (hW.mono hn₀) (fun _ _ h => h))
    (fun pre x W1 h1 h2 h3 => (hY pre x W1 h1 h2 h3).mono (fun _ _ h => ⟨h.1, h.2.1, h.2.2.below⟩)) h0

set_option maxRecDepth 100000 in
set_option maxHeartbeats 2000000 in
theorem appendSeqS_any (n₀ gf : Nat) (lb : Array Value) (xs : List ByteArray) (w : World) (hn₀ : n₀ ≤ w.heap.size) (hx : xs.length ≤ 1099511627776) (eg : ∀ args w, (callFunc gf args).run Tryz.prog w = .ok (.enter gf args) w)
    (hseq : SeqX Fence.wide 1 Tryz.prog gf lb (fun x : ByteArray => #[.string x]) n₀ (fun ys => ys = xs) xs.length 0 w) :
    Calls Tryz.prog 77 #[.slice none 0 0, .func (.func gf) #[] lb] w fun e w' => ∃ v, e = .returned v ∧ w'.ownsRow w.heap.size 9 1 v xs.length (xs.map Value.string) ∧ Below w.heap.size w w' := by
  obtain ⟨i0, hi, hz0, hz1, hz2⟩ := info_ofS infoS
  refine (callsIn_wide (n := 2)).1 ?_
  refine callsIn_of_wp_marks Tryz.func77 rfl trivial ?_ rfl
  simp only [Tryz.ntmps77, List.size_toArray, List.length_cons, List.length_nil, Nat.reduceAdd, Nat.reduceSub, Array.replicate_succ, Array.replicate_zero, List.push_toArray, List.append_toArray, List.nil_append, List.cons_append]
  have bO := Boxed.new w 34 (.slice none 0 0)
  have hB0 : Below w.heap.size w (w.alloc (.cells #[.slice none 0 0] 34)) := (Below.refl _ w).alloc (Nat.le_refl _) _
  have hs0 : (w.alloc (.cells #[.slice none 0 0] 34)).heap.size = w.heap.size + 1 := by simp
  gi_wp2_with fail
  generalize w.alloc (.cells #[.slice none 0 0] 34) = w2 at *
  refine wpIn_rangeFunc_X rfl (by omega) (gf := gf) (lb := lb) rfl trivial eg (hseq.later hB0) (by omega) (Below.refl _ _) (fun _ => rfl)
    (fun pre X => ∃ v, Boxed X w.heap.size 34 v ∧ X.ownsRow (w2.heap.size + 2) 9 1 v pre.length (pre.map Value.string) ∧ Below w.heap.size w X)
    ?hI ⟨_, bO, World.ownsRow_nil _ _ _ _, hB0⟩
    (fun x => { tmps := #[.slice none 0 0, .func (.func gf) #[] lb, .pointer (some ⟨w.heap.size, 0, none⟩), undef, .slice none 0 0, .string x, .func (.func gf) #[] lb, .string x, undef, undef, undef, undef, undef], defers := [] }) ?assign ?body ?done
  case hI =>
    rintro s X Y row ⟨v, h1, h2, h3⟩ hg hr
    refine ⟨v, h1.kept hg (fun e => by have := hr _ e.symm; omega), h2.kept hg ?_, h3.grown hg h3.size (fun r e => by have := hr r e; omega)⟩
    cases ho : v.ownBlock with
    | none => exact .inl rfl
    | some B =>
      refine .inr (fun e => ?_)
      have := (h2.lt B ho).1
      have := hr B e.symm
      omega
  case assign =>
    intro l x X K hK
    gi_wp2
    exact hK
  case body =>
    rintro l' pre x X ⟨v, hb1, hr1, hB⟩ hlt hsz
    have hcb := hb1.cell
    have hor : ∀ B, v.ownBlock = some B → w2.heap.size + 2 ≤ B := fun B e => (hr1.lt B e).1
    have hX := hb1.lt
    gi_wp2_with (gi_at_builtin; refine wpListIn_append_own_at _ rfl _ _ 34 rfl (w2.heap.size + 2) 9 i0 (.string ⟨#[]⟩) 1 16 Tryz.underlying34 hi hz0 hz1 hz2 rfl (by decide) v pre.length _ rfl (hr1.alloc _) ⟨X.heap.size, 0, none⟩ 1 1 [.string x] rfl rfl (cell_one_new _ _ _) (by simp [Value.oneCell']) (by unfold maxLen; omega) (by omega) (by simp; omega) ?_; intro v' w3 hown3 hgrow3 hnil3 hat3; obtain ⟨q', c', hv'⟩ := owns_form hown3; subst hv'; have hv1 : Boxed w3 w.heap.size 34 v := (hb1.alloc _).kept hgrow3 (fun e => by have := hor _ e.symm; omega); have hc3 := hv1.cell; have hf3 := hv1.frozen)
    have hs3 : X.heap.size + 1 ≤ w3.heap.size := by have := hgrow3.size; rwa [World.size_alloc] at this
    have hl : (pre ++ [x]).length = pre.length + 1 := by simp
    have hm : (pre ++ [x]).map Value.string = pre.map Value.string ++ [.string x] := by simp
    have hB4 : Below w.heap.size X (w3.setCell ⟨w.heap.size, 0, none⟩ (.slice q' (pre.length + 1) c')) := ((((Below.refl w.heap.size X).alloc (by omega) (.cells #[.string x] 9)).grown hgrow3 (by simp; omega) (fun r e => by have := hor r e; omega))).grown (grownBy_setCell' w3 w.heap.size (.slice q' (pre.length + 1) c')) (by omega) (fun r e => by cases e; exact Nat.le_refl _)
    refine ⟨⟨hB4.mono hn₀, fun r h1 h2 => ?_⟩, (.slice q' (pre.length + 1) c'), hv1.set (.slice q' (pre.length + 1) c'), by rw [hl, hm]; exact hown3.kept (grownBy_setCell' w3 w.heap.size (.slice q' (pre.length + 1) c')) (.inr (fun e => by have := (hown3.lt _ e).1; omega)), hB.trans hB4⟩
    have e1 := (grownBy_setCell' w3 w.heap.size (.slice q' (pre.length + 1) c')).block r (by omega) (by simp; omega)
    have e2 := hgrow3.block r (by simp; omega) (fun e => by have := hor r e.symm; omega)
    exact e1.trans (e2.trans (Below.heap_alloc _ _ _ (by omega)))
  case done =>
    rintro ys X rfl ⟨v, hb1, hr1, hB⟩ hK
    have hcb := hb1.cell
    have hor : w.heap.size ≤ w2.heap.size + 2 := by omega
    have hr2 : X.ownsRow w.heap.size 9 1 v ys.length (ys.map Value.string) := by
      refine ⟨hr1.1, ?_⟩
      rcases hr1.2 with h | ⟨g, cap, cur, h, hg, h'⟩
      · exact .inl h
      · exact .inr ⟨g, cap, cur, h, by omega, h'⟩
    gi_wp2
    refine ⟨by simp, .inl ⟨_, _, rfl, run_takeDeferred hK, ?_⟩⟩
    exact ⟨_, results_tmp rfl _ _ _, _, rfl, ownsRow_putObj hr2 _ hK rfl, hB.trans (belowK_b (w := w) (Nat.le_refl _) X w2.heap.size _ _ (by omega) hK rfl rfl)⟩

set_option maxRecDepth 100000 in
set_option maxHeartbeats 1000000 in
theorem sorted_any (n₀ gf : Nat) (lb : Array Value) (xs : List ByteArray) (w : World) (hn₀ : n₀ ≤ w.heap.size) (hx : xs.length ≤ 1099511627776) (eg : ∀ args w, (callFunc gf args).run Tryz.prog w = .ok (.enter gf args) w)
    (hseq : SeqX Fence.wide 1 Tryz.prog gf lb (fun x : ByteArray => #[.string x]) n₀ (fun ys => ys = xs) xs.length 0 w) :
    Calls Tryz.prog 31 #[.func (.func gf) #[] lb] w fun e w' => ∃ (v : Value) (l : List (List UInt8)), e = .returned v ∧ w'.ownsRow w.heap.size 9 1 v l.length (l.map encStr) ∧ (∀ x, x ∈ l ↔ x ∈ btL xs) ∧ l.length = xs.length ∧ Below w.heap.size w w' := by
  have hap := appendSeqS_any n₀ gf lb xs w hn₀ hx eg hseq
  have hco : Calls Tryz.prog 50 #[.func (.func gf) #[] lb] w fun e w' => ∃ v, e = .returned v ∧ w'.ownsRow w.heap.size 9 1 v xs.length (xs.map Value.string) ∧ Below w.heap.size w w' := by
    clear hseq
    go_enter Tryz.func50, Tryz.ntmps50
    go_wp2_with fail
    refine hap.mono ?_
    clear hap
    rintro e w1 ⟨v, rfl, h1, h2⟩
    go_wp2
    go_ret
    exact ⟨v, rfl, h1, h2⟩
  clear hap hseq
  go_enter Tryz.func31, Tryz.ntmps31
  go_wp2_with fail
  refine hco.mono ?_
  clear hco
  rintro e w1 ⟨v, rfl, h1, b1⟩
  have hlb : (btL xs).length = xs.length := by simp [btL]
  rw [← btL_enc, ← hlb] at h1
  have hso := sortS_any w.heap.size v (btL xs) w1 h1 b1.size (by omega)
  clear h1
  go_wp2_with fail
  refine hso.mono ?_
  clear hso
  rintro e w2 ⟨rfl, h2, b2⟩
  have hlm : ((btL xs).mergeSort fun x y => decide (x ≤ y)).length = (btL xs).length := by simp
  have FIN : Hid (w2.ownsRow w.heap.size 9 1 v ((btL xs).mergeSort fun x y => decide (x ≤ y)).length (((btL xs).mergeSort fun x y => decide (x ≤ y)).map encStr) ∧ (∀ x, x ∈ ((btL xs).mergeSort fun x y => decide (x ≤ y)) ↔ x ∈ btL xs) ∧ ((btL xs).mergeSort fun x y => decide (x ≤ y)).length = xs.length ∧ Below w.heap.size w w2) := ⟨by rw [hlm]; exact h2, fun x => List.mem_mergeSort, by rw [hlm, hlb], b1.trans b2⟩
  clear h2 b1 b2 hlm
  go_wp2
  go_ret
  exact ⟨v, _, rfl, FIN.out⟩

end Go.Proofs.YtchfnnoabejlpabGreat.Bk
