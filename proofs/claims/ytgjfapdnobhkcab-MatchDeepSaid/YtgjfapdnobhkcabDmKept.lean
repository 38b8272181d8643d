/- package dom: kept: a node as a tree keeps it, in new memory. -/
import Derived.Test.YtgjfapdnobhkcabDmMem
import Derived.Test.YtgjfapdnobhkcabShelf
import Derived.Deep.RegionHeldLaw
namespace Go.Proofs.Ytgjfapdnobhkcab.Dm
open Go Go.RowKit Go.Shelf

set_option maxRecDepth 100000 in
theorem clone_any (w : World) (s : ByteArray) (hs : s.size ≤ 281474976710656) :
    Calls Try.prog 43 #[.string s] w fun e w' => e = .returned (.string s) ∧ Below w.heap.size w w' := by
  have hc := Try.stringslite_Clone s w hs
  go_enter Try.func43, Try.ntmps43
  go_wp2_with fail
  refine hc.mono ?_
  rintro e w' ⟨rfl, hb⟩
  clear hc
  go_wp2
  go_ret
  exact ⟨rfl, hb⟩
theorem low_any (w : World) (s : ByteArray) (hs : s.size ≤ 281474976710656) :
    Calls Try.prog 42 #[.string s] w fun e w' => e = .returned (.string (lowS s)) ∧ Below w.heap.size w w' := Lw.lower_any s w (by unfold maxLen; omega)

/-- A node under way: its five cells, its rows in blocks of their own. -/
structure Und (b : Nat) (W : World) (B : Nat) (n : Nd) (cv av : Value) : Prop where
  blk : Blk W B 28 (nvCells ⟨n, cv, av⟩)
  cls : StrRow b W cv n.cls
  ats : PairRow b W av n.ats

theorem bcell {W w1 : World} (hb : Below W.heap.size W w1) : (∀ b o, b < W.heap.size → w1.cell? ⟨b, o, none⟩ = W.cell? ⟨b, o, none⟩) ∧ (∀ b o, b < W.heap.size → w1.frozen? ⟨b, o, none⟩ = W.frozen? ⟨b, o, none⟩) :=
  ⟨fun b o h => hb.cell (p := ⟨b, o, none⟩) h, fun b o h => hb.frozen (p := ⟨b, o, none⟩) h⟩
/-- Behind an append of a class, and the store: the node has one class more. -/
theorem push_cls {n B g7 c7 k : Nat} {w7 : World} {a b c d v : Value} {l : List ByteArray} {s : ByteArray} (hB : Blk w7 B 28 [a, b, c, v, d]) (hl : l.length = k)
    (hr : w7.ownsRow n 9 1 (.slice (some ⟨g7, 0, none⟩) (k + 1) c7) (k + 1) (l.map Value.string ++ [.string s])) :
    StrRow n (w7.setCell ⟨B, 3, none⟩ (.slice (some ⟨g7, 0, none⟩) (k + 1) c7)) (.slice (some ⟨g7, 0, none⟩) (k + 1) c7) (l ++ [s]) ∧ Blk (w7.setCell ⟨B, 3, none⟩ (.slice (some ⟨g7, 0, none⟩) (k + 1) c7)) B 28 [a, b, c, .slice (some ⟨g7, 0, none⟩) (k + 1) c7, d] := by
  have hne := row_blk (e := 9) (t := 28) (by decide) hr hB
  refine ⟨?_, blk_put hB 3 _⟩
  unfold StrRow
  rw [List.length_append, List.length_singleton, hl, List.map_append]
  exact hr.kept (grown_set w7 B 3 _) (.inr hne)
/-- Behind an append of an attribute, and the store. -/
theorem push_ats {n B g7 c7 k : Nat} {w7 : World} {a b c d v : Value} {l : List (ByteArray × ByteArray)} {s : ByteArray × ByteArray} (hB : Blk w7 B 28 [a, b, c, d, v]) (hl : l.length = k)
    (hr : w7.ownsRow n 24 2 (.slice (some ⟨g7, 0, none⟩) (k + 1) c7) (k + 1) (l.flatMap paCells ++ [.string s.1, .string s.2])) :
    PairRow n (w7.setCell ⟨B, 4, none⟩ (.slice (some ⟨g7, 0, none⟩) (k + 1) c7)) (.slice (some ⟨g7, 0, none⟩) (k + 1) c7) (l ++ [s]) ∧ Blk (w7.setCell ⟨B, 4, none⟩ (.slice (some ⟨g7, 0, none⟩) (k + 1) c7)) B 28 [a, b, c, d, .slice (some ⟨g7, 0, none⟩) (k + 1) c7] := by
  have hne := row_blk (e := 24) (t := 28) (by decide) hr hB
  refine ⟨?_, blk_put hB 4 _⟩
  unfold PairRow
  rw [List.length_append, List.length_singleton, hl, List.flatMap_append]
  exact hr.kept (grown_set w7 B 4 _) (.inr hne)
theorem take_more {α : Type} {l : List α} {k : Nat} (h : k < l.length) : l.take (k + 1) = l.take k ++ [l[k]] := List.take_succ_eq_append_getElem h

set_option maxRecDepth 100000 in
set_option maxHeartbeats 16000000 in
theorem kept_any (n : Nd) (cv av : Value) (w : World) (hc : StrsAt w.heap.size w cv n.cls) (ha : PairsAt w.heap.size w av n.ats) (hN : NdOk n) :
    Calls Try.prog 33 #[ndVal n cv av] w fun e w' => ∃ cv' av', e = .returned (ndVal (lowN n) cv' av') ∧ StrRow w.heap.size w' cv' n.cls ∧ PairRow w.heap.size w' av' (n.ats.map lowA) ∧ Below w.heap.size w w' := by
  unfold ndVal
  obtain ⟨parent, tag, id, cls, ats⟩ := n
  obtain ⟨n1, n2, n3, n4, n5, n6⟩ := hN
  simp only at hc ha n1 n2 n3 n4 n5 n6
  obtain ⟨pc, cc, rfl⟩ := hc.len
  obtain ⟨pa, ca, rfl⟩ := ha.len
  have k1 : Blk (w.alloc (.cells #[.int .i64 parent, .string tag, .string id, .slice pc cls.length cc, .slice pa ats.length ca] 28)) w.heap.size 28 [.int .i64 parent, .string tag, .string id, .slice pc cls.length cc, .slice pa ats.length ca] := Blk.new w 28 [.int .i64 parent, .string tag, .string id, .slice pc cls.length cc, .slice pa ats.length ca]
  have b1 : Below w.heap.size w (w.alloc (.cells #[.int .i64 parent, .string tag, .string id, .slice pc cls.length cc, .slice pa ats.length ca] 28)) := (Below.refl _ _).alloc (Nat.le_refl _) _
  have hs1 : (w.alloc (.cells #[.int .i64 parent, .string tag, .string id, .slice pc cls.length cc, .slice pa ats.length ca] 28)).heap.size = w.heap.size + 1 := World.size_alloc _ _
  have b2 : Below (w.heap.size + 1) (w.alloc (.cells #[.int .i64 parent, .string tag, .string id, .slice pc cls.length cc, .slice pa ats.length ca] 28)) ((w.alloc (.cells #[.int .i64 parent, .string tag, .string id, .slice pc cls.length cc, .slice pa ats.length ca] 28)).alloc (.cells #[.int .i64 0, .string ⟨#[]⟩, .string ⟨#[]⟩, .slice none 0 0, .slice none 0 0] 28)) := (Below.refl _ _).alloc (by rw [hs1]; exact Nat.le_refl _) _
  have k2 : Blk ((w.alloc (.cells #[.int .i64 parent, .string tag, .string id, .slice pc cls.length cc, .slice pa ats.length ca] 28)).alloc (.cells #[.int .i64 0, .string ⟨#[]⟩, .string ⟨#[]⟩, .slice none 0 0, .slice none 0 0] 28)) (w.heap.size + 1) 28 [.int .i64 0, .string ⟨#[]⟩, .string ⟨#[]⟩, .slice none 0 0, .slice none 0 0] := by
    rw [← hs1]; exact Blk.new _ 28 [.int .i64 0, .string ⟨#[]⟩, .string ⟨#[]⟩, .slice none 0 0, .slice none 0 0]
  have k3 := k1.below b2 (Nat.lt_succ_self _)
  have b3 := b1.trans (b2.mono (Nat.le_succ _))
  clear k1 b1 b2 hs1
  go_enter Try.func33, Try.ntmps33
  go_upto_region 1 with fail
  generalize (w.alloc (.cells #[.int .i64 parent, .string tag, .string id, .slice pc cls.length cc, .slice pa ats.length ca] 28)).alloc (.cells #[.int .i64 0, .string ⟨#[]⟩, .string ⟨#[]⟩, .slice none 0 0, .slice none 0 0] 28) = W1 at *
  have hs1 := k2.lt
  have h01 := k3.lt
  have g1 := low_any W1.drew tag n1
  go_cut [3] (fun x wx => ∃ B, x = .pointer (some ⟨B, 0, none⟩) ∧ W1.heap.size ≤ B ∧ Blk wx B 28 [.int .i64 parent, .string (lowS tag), .string id, .slice none 0 0, .slice none 0 0] ∧ Below W1.heap.size W1 wx)
  case first =>
    obtain ⟨⟨y0, y1, y2, y3, y4⟩, _⟩ := blk5 k3
    have HS : Hid (∀ X : World, Below W1.heap.size W1 X → X.cell? ⟨w.heap.size, 0, none⟩ = some (.int .i64 parent) ∧ X.cell? ⟨w.heap.size, 1, none⟩ = some (.string tag) ∧ X.cell? ⟨w.heap.size, 2, none⟩ = some (.string id)) := fun X hX => by
      obtain ⟨⟨z0, z1, z2, _, _⟩, _⟩ := blk5 (k3.next hX)
      exact ⟨z0, z1, z2⟩
    have HA : Hid (∀ (X : World) (o : Obj), Below W1.heap.size W1 X → Below W1.heap.size W1 (X.alloc o)) := fun X o h => h.alloc h.size o
    have HN : Hid (∀ X Y : World, Below X.heap.size X Y → Below W1.heap.size W1 X → Below W1.heap.size W1 Y) := fun X Y h hX => below_next hX h
    have H5 : Hid (∀ (X : World) (B : Nat) (a b c d e : Value), Below W1.heap.size W1 X → W1.heap.size ≤ B → Below W1.heap.size W1 (((((X.setCell ⟨B, 0, none⟩ a).setCell ⟨B, 1, none⟩ b).setCell ⟨B, 2, none⟩ c).setCell ⟨B, 3, none⟩ d).setCell ⟨B, 4, none⟩ e)) := fun X B a b c d e h hB => below_grown h (grown_set5 X B a b c d e) h.size hB
    have q0 : Below W1.heap.size W1 W1.drew := below_drew (Below.refl _ _)
    have qA : Below W1.heap.size W1 (W1.alloc (.cells #[.int .i64 0, .string ⟨#[]⟩, .string ⟨#[]⟩, .slice none 0 0, .slice none 0 0] 28)).drew := below_drew ((Below.refl _ _).alloc (Nat.le_refl _) _)
    clear hc ha k2 k3 b3 n3 n4 n5 n6
    go_region_held (fun X => X.cell? ⟨w.heap.size, 0, none⟩ = some (.int .i64 parent) ∧ X.cell? ⟨w.heap.size, 1, none⟩ = some (.string tag) ∧ X.cell? ⟨w.heap.size, 2, none⟩ = some (.string id)) (first | exact HS.out _ (by with_reducible assumption) | exact HS.out _ (HA.out _ _ (by with_reducible assumption)) | exact HS.out _ (H5.out _ _ _ _ _ _ _ (by with_reducible assumption) (by first | exact Nat.le_refl _ | with_reducible assumption)) | go_keep)
      (first
      | (go_at_call 42; (with_reducible refine Calls.mono (low_any (W1.alloc (.cells #[.int .i64 0, .string ⟨#[]⟩, .string ⟨#[]⟩, .slice none 0 0, .slice none 0 0] 28)).drew tag n1) ?_); rintro e wN ⟨rfl, bN⟩; have qN := HN.out _ wN bN qA; have kN : Blk wN W1.heap.size 28 [.int .i64 0, .string ⟨#[]⟩, .string ⟨#[]⟩, .slice none 0 0, .slice none 0 0] := (show Blk (W1.alloc (.cells #[.int .i64 0, .string ⟨#[]⟩, .string ⟨#[]⟩, .slice none 0 0, .slice none 0 0] 28)).drew W1.heap.size 28 [.int .i64 0, .string ⟨#[]⟩, .string ⟨#[]⟩, .slice none 0 0, .slice none 0 0] from Blk.new W1 28 [.int .i64 0, .string ⟨#[]⟩, .string ⟨#[]⟩, .slice none 0 0, .slice none 0 0]).next bN; clear bN)
      | (go_at_call 42; (with_reducible refine Calls.mono (low_any W1.drew tag n1) ?_); rintro e wN ⟨rfl, bN⟩; have qN := HN.out _ wN bN q0; have sN := qN.size; clear bN)
      | (go_at_call 43; (with_reducible refine Calls.mono (clone_any wN id n2) ?_); rintro e wM ⟨rfl, bM⟩; have qM := HN.out _ wM bM qN; have kM := kN.next bM; obtain ⟨⟨u0, u1, u2, u3, u4⟩, v0, v1, v2, v3, v4⟩ := blk5 kM; clear bM)
      | (go_at_call 43; (with_reducible refine Calls.mono (clone_any wN id n2) ?_); rintro e wM ⟨rfl, bM⟩; have qM := HN.out _ wM bM qN; have sM := qM.size; clear bM)
      | (go_at_call 43; (with_reducible refine Calls.mono (clone_any (wN.alloc (.cells #[.int .i64 0, .string ⟨#[]⟩, .string ⟨#[]⟩, .slice none 0 0, .slice none 0 0] 28)) id n2) ?_); rintro e wM ⟨rfl, bM⟩; have qM := HN.out _ wM bM (qN.alloc sN _); have kM : Blk wM wN.heap.size 28 [.int .i64 0, .string ⟨#[]⟩, .string ⟨#[]⟩, .slice none 0 0, .slice none 0 0] := (Blk.new wN 28 [.int .i64 0, .string ⟨#[]⟩, .string ⟨#[]⟩, .slice none 0 0, .slice none 0 0]).next bM; obtain ⟨⟨u0, u1, u2, u3, u4⟩, v0, v1, v2, v3, v4⟩ := blk5 kM; clear bM))
    all_goals
      go_wp2_with fail
      go_meet
      first
        | exact ⟨_, rfl, sM, Blk.new wM 28 [.int .i64 parent, .string (lowS tag), .string id, .slice none 0 0, .slice none 0 0], qM.alloc sM _⟩
        | exact ⟨_, rfl, sN, blk_set5 kM _ _ _ _ _, H5.out _ _ _ _ _ _ _ qM sN⟩
        | exact ⟨_, rfl, Nat.le_refl _, blk_set5 kM _ _ _ _ _, H5.out _ _ _ _ _ _ _ qM (Nat.le_refl _)⟩
  case rest =>
    obtain ⟨B, rfl, hB, kB, bW⟩ := hcut
    rename World => W2
    have y3 := (blk5 (k3.next bW)).1.2.2.2.1
    have hsw := b3.size
    have K3 : Hid (Blk W1 w.heap.size 28 [.int .i64 parent, .string tag, .string id, .slice pc cls.length cc, .slice pa ats.length ca]) := k3
    have K2 : Hid (Blk W1 (w.heap.size + 1) 28 [.int .i64 0, .string ⟨#[]⟩, .string ⟨#[]⟩, .slice none 0 0, .slice none 0 0]) := k2
    have HC : Hid (StrsAt w.heap.size W1 (.slice pc cls.length cc) cls) := hc.below b3
    have HAt : Hid (PairsAt w.heap.size W1 (.slice pa ats.length ca) ats) := ha.below b3
    have B3 : Hid (Below w.heap.size w W1) := b3
    have l3 : cls.length ≤ 8796093022208 := by omega
    have l4 : ats.length ≤ 4398046511104 := by omega
    have HN3 : Hid (∀ s ∈ cls, s.size ≤ 281474976710656) := n3
    have HN4 : Hid (∀ a ∈ ats, a.1.size ≤ 281474976710656 ∧ a.2.size ≤ 281474976710656) := n4
    obtain ⟨i0, hi, hz0, hz1, hz2⟩ := info_parts infoStr
    obtain ⟨j0, hj, hx0, hx1, hx2⟩ := info_parts infoPair
    clear n3 n4 g1 hc ha b3 k2 k3
    go_wp2
    go_loopw [20] (fun i wr => ∃ (k : Nat) (v : Value), i = .int .i64 k ∧ k ≤ cls.length ∧ Blk wr B 28 [.int .i64 parent, .string (lowS tag), .string id, v, .slice none 0 0] ∧ StrRow W1.heap.size wr v (cls.take k) ∧ Below W1.heap.size W1 wr) (fun i _ => cls.length - (intOf i).toNat)
    case atStart => exact ⟨0, _, rfl, Nat.zero_le _, kB, World.ownsRow_nil _ _ _ _, bW⟩
    case round =>
      clear kB bW y3
      obtain ⟨k, v, rfl, hk, kB, hR, bW⟩ := hrel
      by_cases hlt : k < cls.length
      · have hki : (k : Int) < (cls.length : Int) := by omega
        have hlk : (cls.take k).length = k := List.length_take_of_le hk
        have hs := HN3.out _ (List.getElem_mem hlt)
        have HTK : Hid (cls.take (k + 1) = cls.take k ++ [cls[k]]) := take_more hlt
        have HLK : Hid (_ = _) := hlk
        obtain ⟨bk, off, rfl, hbk, hcc, _, hcell⟩ := (HC.out.below (bW.mono hsw)).get (List.getElem?_eq_getElem hlt)
        have x0 := hcell 0 _ rfl
        simp only [Nat.mul_one, Nat.add_zero] at x0
        unfold StrRow at hR
        rw [hlk] at hR
        clear hlk
        obtain ⟨pq, cq, rfl⟩ := owns_form hR
        generalize cls[k] = s at *
        clear hcell
        go_upto_region 5 with fail
        have HR4 : Hid (∀ (X : World) (o : Obj), Below wr.heap.size wr X → (X.alloc o).ownsRow W1.heap.size 9 1 (.slice pq k cq) k ((cls.take k).map Value.string)) := fun X o hX => (owns_next hR hX).alloc o
        have HSZ : Hid (∀ (X : World) (o : Obj), Below wr.heap.size wr X → W1.heap.size ≤ (X.alloc o).heap.size) := fun X o hX => by rw [World.size_alloc]; have := hX.size; have := bW.size; omega
        have HB7 : Hid (∀ (X : World) (o : Obj) w7, Below wr.heap.size wr X → (X.alloc o).grownBy w7 (Value.slice pq k cq).ownBlock → Blk w7 B 28 [.int .i64 parent, .string (lowS tag), .string id, .slice pq k cq, .slice none 0 0]) := fun X o w7 hX hg => (kB.next (hX.alloc hX.size o)).kept hg (fun e => row_blk (e := 9) (t := 28) (by decide) ((owns_next hR hX).alloc o) (kB.next (hX.alloc hX.size o)) e.symm)
        have HBL : Hid (∀ (X : World), Below wr.heap.size wr X → Blk X B 28 [.int .i64 parent, .string (lowS tag), .string id, .slice pq k cq, .slice none 0 0]) := fun X hX => kB.next hX
        have HBW : Hid (∀ (X : World) (o : Obj) w7 q, Below wr.heap.size wr X → (X.alloc o).grownBy w7 (Value.slice pq k cq).ownBlock → Below W1.heap.size W1 (w7.setCell ⟨B, 3, none⟩ q)) := fun X o w7 q hX hg => by
          have h1 := (below_nextN bW hX (Nat.le_refl _)).alloc (by have := hX.size; have := bW.size; omega) o
          have h2 := h1.grown hg h1.size (fun r e => (owns_lt hR e).1)
          exact below_grown h2 (grown_set w7 B 3 q) h2.size hB
        have H1 : ∀ u ∈ ([.string s] : List Value), u.oneCell' = true := fun u hu => by simp at hu; subst hu; rfl
        have m1 : k + 1 ≤ maxLen := by unfold maxLen; omega
        have m2 : (k + 1) * 16 ≤ 140737488355328 := by omega
        have hq0 : Below wr.heap.size wr wr.drew := below_drew (Below.refl _ _)
        obtain ⟨⟨_, _, _, z3, _⟩, _, _, _, f3, _⟩ := blk5 kB
        clear hR kB bW
        go_region_law (first
          | (refine step_append_lies (w := World.alloc _ _) rfl _ _ 26 rfl W1.heap.size 9 i0 (.string ⟨#[]⟩) 1 16 Try.underlying26 hi hz0 hz1 hz2 rfl (by decide) (.slice pq k cq) _ _ rfl (HR4.out _ _ (by assumption)) _ 1 1 [.string s] rfl rfl (cells_plain _ [_] _) H1 (by decide) m1 m2 (HSZ.out _ _ (by assumption)) _ rfl ?_; intro g7 c7 w7 hown7 hgrow7 hat7 hlt7; obtain ⟨⟨_, _, _, z3, _⟩, _, _, _, f3, _⟩ := blk5 (HB7.out _ _ w7 (by assumption) hgrow7))
          | (go_simp; go_at_call 43; refine Calls.mono (clone_any _ _ hs) ?_; rintro e wN ⟨rfl, bN⟩; have qN : Below wr.heap.size wr wN := hq0.trans (bN.mono (Nat.le_refl _)); obtain ⟨⟨_, _, _, z3, _⟩, _⟩ := blk5 (HBL.out wN qN); obtain ⟨⟨_, _, _, za3, _⟩, _⟩ := blk5 (HBL.out (wN.alloc (.cells #[.string s] 9)) (qN.alloc qN.size _))))
        all_goals
          go_wp2
          obtain ⟨h8, h9⟩ := push_cls (HB7.out _ _ w7 qN hgrow7) HLK.out hown7
          exact ⟨⟨k + 1, _, by go_num, by omega, h9, by rw [HTK.out]; exact h8, HBW.out _ _ _ _ qN hgrow7⟩, by simp [intOf]; omega⟩
      · have hki : ¬ (k : Int) < (cls.length : Int) := by omega
        obtain rfl : k = cls.length := by omega
        rw [List.take_length] at hR
        have y4 := (blk5 (K3.out.next bW)).1.2.2.2.2
        clear HC HN3
        obtain ⟨pv, cv', rfl⟩ := owns_form hR
        go_wp2
        go_loopw [35] (fun i wr => ∃ (k : Nat) (v2 : Value), i = .int .i64 k ∧ k ≤ ats.length ∧ Blk wr B 28 [.int .i64 parent, .string (lowS tag), .string id, .slice pv cls.length cv', v2] ∧ StrRow W1.heap.size wr (.slice pv cls.length cv') cls ∧ PairRow W1.heap.size wr v2 ((ats.take k).map lowA) ∧ Below W1.heap.size W1 wr) (fun i _ => ats.length - (intOf i).toNat)
        case atStart => exact ⟨0, _, rfl, Nat.zero_le _, kB, hR, World.ownsRow_nil _ _ _ _, bW⟩
        case round =>
          clear kB bW y4 hR hki hk hlt
          obtain ⟨k, v2, rfl, hk, kB, hR, hP, bW⟩ := hrel
          by_cases hlt : k < ats.length
          · have hki : (k : Int) < (ats.length : Int) := by omega
            have hlk : ((ats.take k).map lowA).length = k := by rw [List.length_map]; exact List.length_take_of_le hk
            have hs := HN4.out _ (List.getElem_mem hlt)
            have HTK : Hid ((ats.take (k + 1)).map lowA = (ats.take k).map lowA ++ [lowA ats[k]]) := by show _ = _; rw [take_more hlt, List.map_append]; rfl
            have HLK : Hid (_ = _) := hlk
            obtain ⟨bk, off, rfl, hbk, hcc, _, hcell⟩ := (HAt.out.below (bW.mono hsw)).get (List.getElem?_eq_getElem hlt)
            have x0 := hcell 0 _ rfl
            have x1 := hcell 1 _ rfl
            simp only [Nat.add_zero] at x0
            unfold PairRow at hP
            rw [hlk] at hP
            clear hlk
            obtain ⟨pq, cq, rfl⟩ := owns_form hP
            generalize ats[k] = s at *
            obtain ⟨nm, tx⟩ := s
            simp only at x0 x1 hs
            obtain ⟨hs1, hs2⟩ := hs
            clear hcell
            have bA : Below wr.heap.size wr (wr.alloc (.cells #[.string nm, .string tx] 24)) := (Below.refl _ _).alloc (Nat.le_refl _) _
            have kA : Blk (wr.alloc (.cells #[.string nm, .string tx] 24)) wr.heap.size 24 [.string nm, .string tx] := Blk.new wr 24 [.string nm, .string tx]
            have kBA := kB.next bA
            have hRA := hR.next bA
            have hPA := owns_next hP bA
            have bWA := below_nextN bW bA (Nat.le_refl _)
            have hgA : ∀ g, (Value.slice pq k cq).ownBlock = some g → g < wr.heap.size := fun g hg => (owns_lt hP hg).2
            clear kB hR hP bW
            go_upto_region 10 with fail
            generalize wr.alloc (.cells #[.string nm, .string tx] 24) = wA at *
            have HR4 : Hid (∀ (X : World) (o : Obj), Below wA.heap.size wA X → (X.alloc o).ownsRow W1.heap.size 24 2 (.slice pq k cq) k (((ats.take k).map lowA).flatMap paCells)) := fun X o hX => (owns_next hPA hX).alloc o
            have HSZ : Hid (∀ (X : World) (o : Obj), Below wA.heap.size wA X → W1.heap.size ≤ (X.alloc o).heap.size) := fun X o hX => by rw [World.size_alloc]; have := hX.size; have := bWA.size; omega
            have HB7 : Hid (∀ (X : World) (o : Obj) w7, Below wA.heap.size wA X → (X.alloc o).grownBy w7 (Value.slice pq k cq).ownBlock → Blk w7 B 28 [.int .i64 parent, .string (lowS tag), .string id, .slice pv cls.length cv', .slice pq k cq]) := fun X o w7 hX hg => (kBA.next (hX.alloc hX.size o)).kept hg (fun e => row_blk (e := 24) (t := 28) (by decide) ((owns_next hPA hX).alloc o) (kBA.next (hX.alloc hX.size o)) e.symm)
            have HA7 : Hid (∀ (X : World) (o : Obj) w7, Below wA.heap.size wA X → (X.alloc o).grownBy w7 (Value.slice pq k cq).ownBlock → Blk w7 wr.heap.size 24 [.string nm, .string tx]) := fun X o w7 hX hg => (kA.next (hX.alloc hX.size o)).kept hg (fun e => by have := hgA _ e.symm; omega)
            have HR7 : Hid (∀ (X : World) (o : Obj) w7 q, Below wA.heap.size wA X → (X.alloc o).grownBy w7 (Value.slice pq k cq).ownBlock → StrRow W1.heap.size (w7.setCell ⟨B, 4, none⟩ q) (.slice pv cls.length cv') cls) := fun X o w7 q hX hg => by
              have h1 := (owns_next hRA hX).alloc o
              have h2 := h1.kept hg (rows_apart (e := 9) (e' := 24) (by decide) h1 ((owns_next hPA hX).alloc o))
              exact h2.kept (grown_set w7 B 4 q) (.inr (row_blk (e := 9) (t := 28) (by decide) h2 (HB7.out X o w7 hX hg)))
            have HBL : Hid (∀ (X : World), Below wA.heap.size wA X → Blk X B 28 [.int .i64 parent, .string (lowS tag), .string id, .slice pv cls.length cv', .slice pq k cq]) := fun X hX => kBA.next hX
            have HS : Hid (∀ (X : World), Below wA.heap.size wA X → X.cell? ⟨wr.heap.size, 0, none⟩ = some (.string nm) ∧ X.cell? ⟨wr.heap.size, 1, none⟩ = some (.string tx)) := fun X hX => (blk2 (kA.next hX)).1
            have HBW : Hid (∀ (X : World) (o : Obj) w7 q, Below wA.heap.size wA X → (X.alloc o).grownBy w7 (Value.slice pq k cq).ownBlock → Below W1.heap.size W1 (w7.setCell ⟨B, 4, none⟩ q)) := fun X o w7 q hX hg => by
              have h1 := (below_nextN bWA hX (Nat.le_refl _)).alloc (by have := hX.size; have := bWA.size; omega) o
              have h2 := h1.grown hg h1.size (fun r e => (owns_lt hPA e).1)
              exact below_grown h2 (grown_set w7 B 4 q) h2.size hB
            have H1 : ∀ u ∈ ([.string (lowS nm), .string tx] : List Value), u.oneCell' = true := fun u hu => by simp at hu; rcases hu with rfl | rfl <;> rfl
            have m1 : k + 1 ≤ maxLen := by unfold maxLen; omega
            have m2 : (k + 1) * 32 ≤ 140737488355328 := by omega
            have q0 : Below wA.heap.size wA wA.drew := below_drew (Below.refl _ _)
            have HA : Hid (∀ (X : World) (o : Obj), Below wA.heap.size wA X → Below wA.heap.size wA (X.alloc o)) := fun X o h => h.alloc h.size o
            have hneB : wr.heap.size ≠ B := fun e => by
              have h1 := kA
              rw [e] at h1
              have h2 := (show wA.heap[B]? = _ from h1).symm.trans (show wA.heap[B]? = _ from kBA)
              injection h2 with h2
              injection h2 with _ h3
              exact absurd h3 (by decide)
            have hneA : B ≠ wr.heap.size := fun e => hneB e.symm
            obtain ⟨⟨_, _, _, _, z4⟩, _, _, _, _, f4⟩ := blk5 kBA
            clear hPA kBA bWA hRA hgA bA x0 x1
            obtain ⟨⟨a0, a1⟩, _⟩ := blk2 kA
            go_region_law (first
              | (refine step_append_lies (w := World.alloc _ _) rfl _ _ 25 rfl W1.heap.size 24 j0 (.agg #[.string ⟨#[]⟩, .string ⟨#[]⟩]) 2 32 Try.underlying25 hj hx0 hx1 hx2 rfl (by decide) (.slice pq k cq) _ _ rfl (HR4.out _ _ (by assumption)) _ 1 1 [.string (lowS nm), .string tx] rfl rfl (cells_plain _ [_, _] _) H1 (by decide) m1 m2 (HSZ.out _ _ (by assumption)) _ rfl ?_; intro g7 c7 w7 hown7 hgrow7 hat7 hlt7; obtain ⟨⟨_, _, _, _, z4⟩, _, _, _, _, f4⟩ := blk5 (HB7.out _ _ w7 (by assumption) hgrow7))
              | (go_simp; go_at_call 42; refine Calls.mono (low_any _ _ hs1) ?_; rintro e wN ⟨rfl, bN⟩; have qN : Below wA.heap.size wA wN := below_next q0 bN; obtain ⟨a0, a1⟩ := HS.out wN qN; obtain ⟨⟨_, _, _, _, z4⟩, _⟩ := blk5 (HBL.out wN qN); clear bN)
              | (go_simp; go_at_call 43; refine Calls.mono (clone_any _ _ hs2) ?_; rintro e wM ⟨rfl, bM⟩; have qM : Below wA.heap.size wA wM := below_next qN bM; obtain ⟨⟨_, _, _, _, z4⟩, _⟩ := blk5 (HBL.out wM qM); obtain ⟨⟨_, _, _, _, za4⟩, _⟩ := blk5 (HBL.out (wM.alloc (.cells #[.string (lowS nm), .string tx] 24)) (qM.alloc qM.size _)); clear bM))
            all_goals
              go_wp2
              obtain ⟨h8, h9⟩ := push_ats (s := (lowS nm, tx)) (HB7.out _ _ w7 qM hgrow7) HLK.out hown7
              exact ⟨⟨k + 1, _, by go_num, by omega, h9, HR7.out _ _ _ _ qM hgrow7, by rw [HTK.out]; exact h8, HBW.out _ _ _ _ qM hgrow7⟩, by simp [intOf]; omega⟩
          · have hki : ¬ (k : Int) < (ats.length : Int) := by omega
            obtain rfl : k = ats.length := by omega
            rw [List.take_length] at hP
            unfold PairRow at hP
            rw [List.length_map] at hP
            obtain ⟨pq, cq, rfl⟩ := owns_form hP
            have kZ := K2.out.next bW
            have kW := blk_set5 kZ (.int .i64 parent) (.string (lowS tag)) (.string id) (.slice pv cls.length cv') (.slice pq ats.length cq)
            have gW := grown_set5 wr (w.heap.size + 1) (.int .i64 parent) (.string (lowS tag)) (.string id) (.slice pv cls.length cv') (.slice pq ats.length cq)
            have hR9 := owns_base (hR.kept gW (.inr (row_blk (e := 9) (t := 28) (by decide) hR kZ))) hsw
            have hP9 := owns_base (hP.kept gW (.inr (row_blk (e := 24) (t := 28) (by decide) hP kZ))) hsw
            have b9 := below_grown (below_nextN B3.out (bW.mono (Nat.le_refl _)) (Nat.le_refl _)) gW (by have := bW.size; omega) (Nat.le_succ _)
            obtain ⟨⟨y0, y1, y2, y3, y4⟩, _⟩ := blk5 kB
            obtain ⟨⟨t0, t1, t2, t3, t4⟩, f0, f1, f2, f3, f4⟩ := blk5 kZ
            unfold set5 at kW hR9 hP9 b9
            clear gW kZ hR hP kB
            go_wp2
            refine bodyPost_ret (results_struct rfl _ _ _ _ rfl (load_node kW)) rfl ?_
            refine ⟨_, _, rfl, hR9, ?_, b9⟩
            unfold PairRow
            rw [List.length_map]
            exact hP9

end Go.Proofs.Ytgjfapdnobhkcab.Dm
