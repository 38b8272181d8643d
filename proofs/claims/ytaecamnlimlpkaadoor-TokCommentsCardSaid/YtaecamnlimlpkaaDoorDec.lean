/- The iterator text.decoded, at every slice of bytes: it tells the code points of the bytes, one by one, and keeps nothing of its own in memory. -/
import Derived.Shelf.Abstract
import Derived.WalkKit
import Derived.OwnWalkIn
import Derived.TacticsInMore
import Derived.LoopNIn
import Derived.LoopIn
import Derived.Maps.AppendAt
import Derived.Test.YtaecamnlimlpkaaDoorSeq
import Derived.Test.YtaecamnlimlpkaaDoorPlain
import Derived.Test.YtaecamnlimlpkaaDoorShelf
namespace Go.Proofs.YtaecamnlimlpkaaDoor
open Go Go.RowKit Go.Shelf
attribute [local go_sem] Oper.semAt_some

/-- THE SLICE VALUE v HOLDS THE BYTES l, in a block below n₀. -/
def BytesAt (n₀ : Nat) (W : World) (v : Value) (l : List UInt8) : Prop :=
  (l = [] ∧ (v = .slice none 0 0 ∨ ∃ x cap, v = .slice (some x) 0 cap)) ∨ ∃ bk off cap, v = .slice (some ⟨bk, off, none⟩) l.length cap ∧ l.length ≤ cap ∧ cap ≤ maxLen ∧ bk < n₀ ∧ ∀ j u, l[j]? = some u → W.cell? ⟨bk, off + j, none⟩ = some (.int .u8 u.toNat)

theorem BytesAt.cases {n₀ : Nat} {X : World} {v : Value} {l : List UInt8} (h : BytesAt n₀ X v l) :
    (l = [] ∧ ∃ p cap, v = .slice p 0 cap) ∨ ∃ bk off cap, v = .slice (some ⟨bk, off, none⟩) l.length cap ∧ l.length ≤ cap ∧ cap ≤ maxLen ∧ bk < n₀ ∧ ∀ j u, l[j]? = some u → X.cell? ⟨bk, off + j, none⟩ = some (.int .u8 u.toNat) := by
  rcases h with ⟨h1, rfl | ⟨x, cap, rfl⟩⟩ | h
  · exact .inl ⟨h1, _, _, rfl⟩
  · exact .inl ⟨h1, _, _, rfl⟩
  · exact .inr h
theorem BytesAt.below {n₀ : Nat} {X Y : World} {v : Value} {l : List UInt8} (h : BytesAt n₀ X v l) (hb : Below n₀ X Y) : BytesAt n₀ Y v l := by
  rcases h with h | ⟨bk, off, cap, rfl, hc, hm, hbk, h⟩
  · exact .inl h
  · exact .inr ⟨bk, off, cap, rfl, hc, hm, hbk, fun j u hj => (hb.cell (p := ⟨bk, off + j, none⟩) hbk).trans (h j u hj)⟩
theorem BytesAt.mono {n₀ n₁ : Nat} {X : World} {v : Value} {l : List UInt8} (h : BytesAt n₀ X v l) (hn : n₀ ≤ n₁) : BytesAt n₁ X v l := by
  rcases h with h | ⟨bk, off, cap, rfl, hc, hm, hbk, h⟩
  · exact .inl h
  · exact .inr ⟨bk, off, cap, rfl, hc, hm, by omega, h⟩

/-- The library's tables lie as they should, below n₀. -/
def Tabs (n₀ : Nat) (W : World) : Prop := 0 < n₀ ∧ 1 < n₀ ∧ Lib.Utf8Tabs 0 1 W
theorem Tabs.below {n₀ : Nat} {X Y : World} (h : Tabs n₀ X) (hb : Below n₀ X Y) : Tabs n₀ Y :=
  ⟨h.1, h.2.1, fun c hc => (hb.cell (p := ⟨_, c, none⟩) h.1).trans (h.2.2.1 c hc), fun i hi => ⟨(hb.cell (p := ⟨_, 2 * i, none⟩) h.2.1).trans (h.2.2.2 i hi).1, (hb.cell (p := ⟨_, 2 * i + 1, none⟩) h.2.1).trans (h.2.2.2 i hi).2⟩⟩
theorem Tabs.mono {n₀ n₁ : Nat} {X : World} (h : Tabs n₀ X) (hn : n₀ ≤ n₁) : Tabs n₁ X := ⟨Nat.lt_of_lt_of_le h.1 hn, Nat.lt_of_lt_of_le h.2.1 hn, h.2.2⟩

/-- utf8.DecodeRune at the bytes l. -/
theorem decodeRune_at (l : List UInt8) (bk off cap : Nat) (w : World) (hT : Tabs w.heap.size w) (hp : ∀ j u, l[j]? = some u → w.cell? ⟨bk, off + j, none⟩ = some (.int .u8 u.toNat)) :
    Calls Tryd.prog 25 #[.slice (some ⟨bk, off, none⟩) l.length cap] w fun e w' => e = .returned (.tuple #[.int .i32 (dec l).1, .int .i64 (dec l).2]) ∧ Below w.heap.size w w' := by
  have hs : (⟨l.toArray⟩ : ByteArray).size = l.length := by simp [ByteArray.size]
  have := Tryd.utf8_DecodeRune ⟨l.toArray⟩ bk off cap w hT.2.2 (fun j hj => by
    rw [get!_eq]
    rw [hs] at hj
    have he : l[j]? = some l[j] := List.getElem?_eq_getElem hj
    rw [he]
    exact hp j _ he)
  rw [hs] at this
  exact this

set_option maxRecDepth 100000 in
set_option maxHeartbeats 1000000 in
/-- decoded's closure. -/
theorem decoded1_in (n l Bb n₀ : Nat) (v : Value) (bs : List UInt8) (J : List Int → World → Prop) (W : World) (hBb : Bb < n₀) (hn₀ : n₀ ≤ W.heap.size)
    (hJ : AbidesIn W.heap.size W.heap.size J)
    (hY : ∀ pre x W1, J pre W1 → pre.length < (ipts bs).length → W.heap.size ≤ W1.heap.size → YieldAt Fence.wide (n - 1) Tryd.prog l #[.int .i64 x] W1 fun e W' => e = .returned (.bool true) ∧ J (pre ++ [x]) W' ∧ Below n₀ W1 W')
    (hc : W.cell? ⟨Bb, 0, none⟩ = some v) (hB : BytesAt n₀ W v bs) (hT : Tabs n₀ W) (h0 : J [] W) :
    CallsIn Fence.wide n Tryd.prog 24 #[.func (.yield l) #[] #[], .pointer (some ⟨Bb, 0, none⟩)] W fun e W' => (∃ v, e = .returned v) ∧ ∃ ys, ys = ipts bs ∧ J ys W' := by
  refine callsIn_of_wp Tryd.func24 rfl trivial ?_ rfl
  simp only [Tryd.ntmps24, List.size_toArray, List.length_cons, List.length_nil, Nat.reduceAdd, Nat.reduceSub, Array.replicate_succ, Array.replicate_zero, List.push_toArray, List.append_toArray, List.nil_append, List.cons_append]
  gi_wp2
  gi_loopw [3] (fun p wr => ∃ (k : Nat) (pre : List Int), p = .int .i64 k ∧ k ≤ bs.length ∧ ipts bs = pre ++ ipts (bs.drop k) ∧ J pre wr ∧ Below n₀ W wr)
    (fun p _ => bs.length - (intOf p).toNat)
  case atStart => exact ⟨0, [], rfl, Nat.zero_le _, rfl, h0, Below.refl _ _⟩
  case round =>
    obtain ⟨k, pre, rfl, hk, hx, hJs, hb⟩ := hrel
    have hc' := (hb.cell (p := ⟨Bb, 0, none⟩) hBb).trans hc
    have hB' := hB.below hb
    have hT' := (hT.below hb).mono (Nat.le_trans hn₀ hb.size)
    rcases hB'.cases with ⟨rfl, p, cap, rfl⟩ | ⟨bk, off, cap, rfl, hcap, hmx, hbk, hcells⟩
    · obtain rfl : k = 0 := by simpa using hk
      gi_wp2
      go_end0
      exact ⟨⟨_, rfl⟩, pre, by simpa [ipts] using hx.symm, hJs⟩
    · by_cases hlt : k < bs.length
      · have hne : bs.drop k ≠ [] := by rw [Ne, List.drop_eq_nil_iff]; omega
        have hdb := dec_bounds hne
        have hxc := ipts_cons hne
        have hcells' : ∀ j u, (bs.drop k)[j]? = some u → wr.cell? ⟨bk, off + k + j, none⟩ = some (.int .u8 u.toNat) := fun j u hj => by
          rw [Nat.add_assoc]; exact hcells (k + j) u (by rw [← hj, List.getElem?_drop])
        have hdl : (bs.drop k).length = bs.length - k := by simp
        unfold maxLen at hmx
        have hki : (k : Int) < (bs.length : Int) := by omega
        have hcall := decodeRune_at (bs.drop k) bk (off + k) (cap - k) wr hT' hcells'
        rw [hdl] at hcall hdb
        have hlen : pre.length < (ipts bs).length := by rw [hx, hxc]; simp
        have hxn : ipts bs = (pre ++ [((dec (bs.drop k)).1 : Int)]) ++ ipts (bs.drop (k + (dec (bs.drop k)).2)) := by
          rw [hx, hxc, List.drop_drop]; simp
        clear hxc hdl hcells' hcells hne
        obtain ⟨hd1, hd2, hd3⟩ := hdb
        generalize (dec (bs.drop k)).1 = r at *
        generalize (dec (bs.drop k)).2 = s at *
        have HX : Hid (_ = _) := hx
        have HN : Hid (_ = _) := hxn
        clear hx hxn
        gi_wp2_with fail
        refine ⟨trivial, fun h => (by cases h), ?_⟩
        refine (callsIn_wide.2 hcall).mono ?_
        clear hcall
        rintro e w2 ⟨rfl, hb2⟩
        have hJ2 : J pre w2 := hJ pre wr w2 none hJs ⟨hb2.os, hb2.tape, hb2.output, hb2.size, fun q hq _ => hb2.block q hq⟩ (fun _ e => by cases e)
        have hbw2 : Below n₀ W w2 := hb.trans (hb2.mono (Nat.le_trans hn₀ hb.size))
        obtain ⟨fn, tmps, assign, body, hy, hR⟩ := hY pre (r : Int) w2 hJ2 hlen hbw2.size
        clear hY
        have hr0 : (0 : Int) ≤ (r : Int) := by omega
        have hr1 : (r : Int) ≤ 1114111 := by omega
        gi_wp2_with fail
        refine ⟨fun h => (by cases h), hR.mono ?_⟩
        rintro e w3 ⟨rfl, hJ3, hb3⟩
        have hks : (k : Int) + (s : Int) ≤ (bs.length : Int) := by omega
        gi_wp2
        go_roundw
        case rel => exact ⟨k + s, pre ++ [(r : Int)], by go_num, by omega, HN, hJ3, hbw2.trans hb3⟩
        case measure => simp [intOf]; omega
      · have hke : k = bs.length := by omega
        subst hke
        gi_wp2
        go_end0
        exact ⟨⟨_, rfl⟩, pre, by simpa [ipts] using hx.symm, hJs⟩

/-- text.decoded: the slice is boxed; the closure captures the box. -/
theorem decoded_in (n : Nat) (v : Value) (w : World) (hv : v.oneCell' = true) :
    CallsIn Fence.wide n Tryd.prog 17 #[v] w fun e w' => e = .returned (.func (.func 24) #[] #[.pointer (some ⟨w.heap.size, 0, none⟩)]) ∧ w' = w.alloc (.cells #[v] 31) := by
  refine callsIn_of_wp Tryd.func17 rfl trivial ?_ rfl
  simp only [Tryd.ntmps17, List.size_toArray, List.length_cons, List.length_nil, Nat.reduceAdd, Nat.reduceSub, Array.replicate_succ, Array.replicate_zero, List.push_toArray, List.append_toArray, List.nil_append, List.cons_append]
  gi_wp2
  go_ret
  exact ⟨rfl, rfl⟩

/-- WHAT text.decoded HANDS BACK, as an iterator. -/
theorem decoded_seq (n Bb n₀ : Nat) (v : Value) (bs : List UInt8) (w : World) (hBb : Bb < n₀) (hn₀ : n₀ ≤ w.heap.size)
    (hc : w.cell? ⟨Bb, 0, none⟩ = some v) (hB : BytesAt n₀ w v bs) (hT : Tabs n₀ w) :
    SeqX Fence.wide n Tryd.prog 24 #[.pointer (some ⟨Bb, 0, none⟩)] (fun x : Int => #[.int .i64 x]) n₀ (fun ys => ys = ipts bs) (ipts bs).length 0 w := fun l J W hW hJ hY h0 =>
  decoded1_in n l Bb n₀ v bs J W hBb (Nat.le_trans hn₀ hW.size) hJ (fun pre x W1 h1 h2 h3 => (hY pre x W1 h1 h2 h3).mono (fun _ _ h => ⟨h.1, h.2.1, h.2.2.below⟩))
    ((hW.cell (p := ⟨Bb, 0, none⟩) (by simp; omega)).trans hc) (hB.below (hW.mono hn₀)) (hT.below (hW.mono hn₀)) h0

end Go.Proofs.YtaecamnlimlpkaaDoor
