/- The document's Node, told by the tree's own rows; SameStrings and SameNode: what a yes tells; reval.Needs. -/
import Derived.Test.YtcdimmabnklcnaaRfGe
import Derived.Test.YtcdimmabnklcnaaDmGc
import Derived.Test.YtcdimmabnklcnaaRfGa
namespace Go.Proofs.Ytcdimmabnklcnaa.Dm
open Go Go.RowKit

set_option maxRecDepth 100000 in
set_option maxHeartbeats 2000000 in
theorem refNode_at (b tb : Nat) (nv dv : Value) (ns : List Nv) (ds : List Int) (k : Nat) (n : Nv) (w : World) (hT : RTr b w tb nv dv ns ds) (hn : ns[k]? = some n) :
    Calls Try.prog 9 #[.pointer (some ⟨tb, 0, none⟩), .int .i64 (k : Int)] w fun x w' => x = .returned (ndVal n.nd n.cv n.av) ∧ Below w.heap.size w w' := by
  have bZ : Below w.heap.size w (w.alloc (.cells #[.int .i64 0, .string ⟨#[]⟩, .string ⟨#[]⟩, .slice none 0 0, .slice none 0 0] 33)) := (Below.refl _ _).alloc (Nat.le_refl _) _
  have kZ : Blk (w.alloc (.cells #[.int .i64 0, .string ⟨#[]⟩, .string ⟨#[]⟩, .slice none 0 0, .slice none 0 0] 33)) w.heap.size 33 [.int .i64 0, .string ⟨#[]⟩, .string ⟨#[]⟩, .slice none 0 0, .slice none 0 0] := Blk.new w 33 [.int .i64 0, .string ⟨#[]⟩, .string ⟨#[]⟩, .slice none 0 0, .slice none 0 0]
  have hTZ := hT.next bZ
  have hh := refIs_any b tb nv dv ns ds (k : Int) _ hTZ
  have hk : k < ns.length := (List.getElem?_eq_some_iff.1 hn).1
  rw [decide_eq_true (show 0 ≤ (k : Int) ∧ (k : Int) < (ns.length : Int) by omega)] at hh
  unfold ndVal
  have hnm := List.mem_of_getElem? hn
  have hki : (k : Int) < (ns.length : Int) := by omega
  clear hT
  go_enter Try.func9, Try.ntmps9
  go_upto_region 1 with fail
  generalize w.alloc (.cells #[.int .i64 0, .string ⟨#[]⟩, .string ⟨#[]⟩, .slice none 0 0, .slice none 0 0] 33) = W1 at *
  go_wp2_with fail
  refine hh.mono ?_
  clear hh
  rintro x W' ⟨rfl, rfl⟩
  obtain ⟨⟨c0, _⟩, _⟩ := blk2 hTZ.blk
  obtain ⟨g, c, rfl, hr1, hr2, x0, x1, x2, x3, x4⟩ := hTZ.get hn
  unfold maxLen at hr2
  have hcls := hTZ.cls n hnm
  have hats := hTZ.ats n hnm
  clear hTZ hn hnm
  obtain ⟨⟨parent, tag, id, cls, ats⟩, cv, av⟩ := n
  simp only at x0 x1 x2 x3 x4 hcls hats
  obtain ⟨pc, cc, rfl⟩ := owns_form hcls
  obtain ⟨pa, ca, rfl⟩ := owns_form hats
  obtain ⟨⟨t0, t1, t2, t3, t4⟩, f0, f1, f2, f3, f4⟩ := blk5 kZ
  have kW := blk_set5 kZ (.int .i64 parent) (.string tag) (.string id) (.slice pc cls.length cc) (.slice pa ats.length ca)
  have gW := grown_set5 W' w.heap.size (.int .i64 parent) (.string tag) (.string id) (.slice pc cls.length cc) (.slice pa ats.length ca)
  have hR9 := (show StrRow b _ (.slice pc cls.length cc) cls from hcls.kept gW (.inr (row_blk (e := 9) (t := 33) (by decide) hcls kZ))).at
  have hP9 := (show PairRow b _ (.slice pa ats.length ca) ats from hats.kept gW (.inr (row_blk (e := 50) (t := 33) (by decide) hats kZ))).at
  have b9 := below_grown bZ gW bZ.size (Nat.le_refl _)
  unfold set5 at kW hR9 hP9 b9
  clear gW hcls hats
  go_wp2
  refine bodyPost_ret (results_struct rfl _ _ _ _ rfl (load_node kW)) rfl ?_
  exact ⟨rfl, b9⟩

set_option maxRecDepth 100000 in
set_option maxHeartbeats 2000000 in
theorem sameStrs_tells (v v' : Value) (l m : List ByteArray) (w : World) (hv : StrsAt w.heap.size w v l) (hv' : StrsAt w.heap.size w v' m) :
    Calls Try.prog 20 #[v, v'] w fun e w' => ∃ t : Bool, e = .returned (.bool t) ∧ Hid (t = true → l = m) ∧ Below w.heap.size w w' := by
  have hl := hv.short
  have hm := hv'.short
  obtain ⟨p, cap, rfl⟩ := hv.len
  obtain ⟨p', cap', rfl⟩ := hv'.len
  by_cases hlm : l.length = m.length
  · rw [← hlm] at hv' ⊢
    have HV : Hid (StrsAt w.heap.size w (.slice p l.length cap) l) := hv
    have HV' : Hid (StrsAt w.heap.size w (.slice p' l.length cap') m) := hv'
    have HLM : Hid (l.length = m.length) := hlm
    clear hv hv' hlm hm
    go_enter Try.func20, Try.ntmps20
    go_wp2
    go_loopw [5] (fun i wr => ∃ k : Nat, i = .int .i64 k ∧ k ≤ l.length ∧ Hid (l.take k = m.take k) ∧ Below w.heap.size w wr) (fun i _ => l.length - (intOf i).toNat)
    case atStart => exact ⟨0, rfl, Nat.zero_le _, rfl, Below.refl _ _⟩
    case round =>
      obtain ⟨k, rfl, hk, HK, hb⟩ := hrel
      by_cases hlt : k < l.length
      · obtain ⟨z, hz⟩ : ∃ z, l[k]? = some z := ⟨_, List.getElem?_eq_getElem hlt⟩
        obtain ⟨u, hu⟩ : ∃ u, m[k]? = some u := ⟨_, List.getElem?_eq_getElem (by rw [← HLM.out]; exact hlt)⟩
        obtain ⟨bk, off, rfl, hbk, g1, g2, ha⟩ := HV.out.get hz
        obtain ⟨bk', off', rfl, hbk', g3, g4, hc⟩ := HV'.out.get hu
        rw [← HLM.out] at g3
        have a0 := ha 0 _ rfl
        have c0 := hc 0 _ rfl
        simp only [Nat.mul_one, Nat.add_zero] at a0 c0
        have HC : Hid (∀ X, Below wr.heap.size wr X → X.cell? ⟨bk, off + k, none⟩ = some (.string z) ∧ X.cell? ⟨bk', off' + k, none⟩ = some (.string u)) := fun X hX => ⟨((below_next hb hX).cell (p := ⟨bk, off + k, none⟩) hbk).trans a0, ((below_next hb hX).cell (p := ⟨bk', off' + k, none⟩) hbk').trans c0⟩
        have HNX : Hid ((z.toList == u.toList) = true → l.take (k + 1) = m.take (k + 1)) := fun h => by
          have hzu : z = u := by
            have h2 : z.toList = u.toList := by simpa using h
            rw [ByteArray.toList_eq, ByteArray.toList_eq] at h2
            exact ByteArray.ext (Array.toList_inj.1 h2)
          rw [List.take_add_one, List.take_add_one, hz, hu, hzu, HK.out]
        have hki : (k : Int) < (l.length : Int) := by omega
        unfold maxLen at g2 g4
        clear ha hc a0 c0 hz hu
        have q0 : Below wr.heap.size wr wr.drew := below_drew (Below.refl _ _)
        have HeldS := HC.out _ q0
        have B0 := below_next hb q0
        go_upto_region 6 with fail
        refine Rg.wpD_begin [0, 1, 2, 3, 4, 5, 6, 7] (fun X => X.cell? ⟨bk, off + k, none⟩ = some (.string z) ∧ X.cell? ⟨bk', off' + k, none⟩ = some (.string u)) (by kernel_rfl) ?_
        refine Rg.wpD_load 0 (v := ?_) (by simp only [List.getElem?_toArray, List.getElem?_cons_zero]; rfl) (by kernel_rfl) (by kernel_rfl) (by intro _ _ _ h; exact h) HeldS (by rfl) (fun wz hz => ?_) ?_
        rotate_left
        · first | (go_simp; done) | (go_simp; with_reducible rfl)
        simp only [Act.put, List.setIfInBounds_toArray, List.set_cons_succ, List.set_cons_zero]
        refine Rg.wpD_load 1 (v := ?_) (by simp only [List.getElem?_toArray, List.getElem?_cons_succ, List.getElem?_cons_zero]; rfl) (by kernel_rfl) (by kernel_rfl) (by intro _ _ _ h; exact h) HeldS (by rfl) (fun wz hz => ?_) ?_
        rotate_left
        · first | (go_simp; done) | (go_simp; with_reducible rfl)
        simp only [Act.put, List.setIfInBounds_toArray, List.set_cons_succ, List.set_cons_zero]
        refine Rg.wpD_load 2 (v := ?_) (by simp only [List.getElem?_toArray, List.getElem?_cons_succ, List.getElem?_cons_zero]; rfl) (by kernel_rfl) (by kernel_rfl) (by intro _ _ _ h; exact h) HeldS (by rfl) (fun wz hz => ?_) ?_
        rotate_left
        · first | (go_simp; done) | (go_simp; with_reducible rfl)
        simp only [Act.put, List.setIfInBounds_toArray, List.set_cons_succ, List.set_cons_zero]
        refine Rg.wpD_load 3 (v := ?_) (by simp only [List.getElem?_toArray, List.getElem?_cons_succ, List.getElem?_cons_zero]; rfl) (by kernel_rfl) (by kernel_rfl) (by intro _ _ _ h; exact h) HeldS (by rfl) (fun wz hz => ?_) ?_
        rotate_left
        · first | (go_simp; done) | (go_simp; with_reducible rfl)
        simp only [Act.put, List.setIfInBounds_toArray, List.set_cons_succ, List.set_cons_zero]
        refine Rg.wpD_load 4 (v := ?_) (by simp only [List.getElem?_toArray, List.getElem?_cons_succ, List.getElem?_cons_zero]; rfl) (by kernel_rfl) (by kernel_rfl) (by intro _ _ _ h; exact h) HeldS (by rfl) (fun wz hz => ?_) ?_
        rotate_left
        · first | (go_simp; done) | (go_simp; with_reducible rfl)
        simp only [Act.put, List.setIfInBounds_toArray, List.set_cons_succ, List.set_cons_zero]
        refine Rg.wpD_load 5 (v := ?_) (by simp only [List.getElem?_toArray, List.getElem?_cons_succ, List.getElem?_cons_zero]; rfl) (by kernel_rfl) (by kernel_rfl) (by intro _ _ _ h; exact h) HeldS (by rfl) (fun wz hz => ?_) ?_
        rotate_left
        · first | (go_simp; done) | (go_simp; with_reducible rfl)
        simp only [Act.put, List.setIfInBounds_toArray, List.set_cons_succ, List.set_cons_zero]
        refine Rg.wpD_load 6 (v := ?_) (by simp only [List.getElem?_toArray, List.getElem?_cons_succ, List.getElem?_cons_zero]; rfl) (by kernel_rfl) (by kernel_rfl) (by intro _ _ _ h; exact h) HeldS (by rfl) (fun wz hz => ?_) ?_
        rotate_left
        · first | (go_simp; done) | (go_simp; with_reducible rfl)
        simp only [Act.put, List.setIfInBounds_toArray, List.set_cons_succ, List.set_cons_zero]
        refine Rg.wpD_load 7 (v := ?_) (by simp only [List.getElem?_toArray, List.getElem?_cons_succ, List.getElem?_cons_zero]; rfl) (by kernel_rfl) (by kernel_rfl) (by intro _ _ _ h; exact h) HeldS (by rfl) (fun wz hz => ?_) ?_
        rotate_left
        · first | (go_simp; done) | (go_simp; with_reducible rfl)
        simp only [Act.put, List.setIfInBounds_toArray, List.set_cons_succ, List.set_cons_zero]
        refine Rg.wpD_pure 8 (v := ?_) (by simp only [List.getElem?_toArray, List.getElem?_cons_succ, List.getElem?_cons_zero]; rfl) (by kernel_rfl) (by kernel_rfl) (by intro _ _ _ h; exact h) (by rfl) (fun wz => ?_) ?_
        rotate_left
        · first | (go_simp; done) | (go_simp; with_reducible rfl)
        simp only [Act.put, List.setIfInBounds_toArray, List.set_cons_succ, List.set_cons_zero]
        refine Rg.wpD_done (by kernel_rfl) ?_
        cases hzu : (z.toList == u.toList) with
        | true =>
          have HT2 : Hid (l.take (k + 1) = m.take (k + 1)) := HNX.out hzu
          go_wp2
          go_roundw
          case rel => exact ⟨k + 1, by go_num, by omega, HT2, B0⟩
          case measure => simp [intOf]; omega
        | false =>
          have HF : Hid (false = true → l = m) := fun h => (by cases h)
          go_wp2
          go_ret
          first | exact ⟨_, rfl, HF, B0⟩ | exact .inl ⟨rfl, trivial, B0⟩
      · have hki : ¬ (k : Int) < (l.length : Int) := by omega
        have HF : Hid (l = m) := by
          have h := HK.out
          rwa [List.take_of_length_le (by omega), List.take_of_length_le (by rw [← HLM.out]; omega)] at h
        go_wp2
        go_ret
        exact .inr ⟨rfl, hb⟩
  · have hne : ((l.length : Int) != (m.length : Int)) = true := by simpa using (by omega : ¬ (l.length : Int) = (m.length : Int))
    have HF : Hid (false = true → l = m) := fun h => (by cases h)
    have hb := Below.refl w.heap.size w
    clear hv hv'
    go_enter Try.func20, Try.ntmps20
    go_wp2
    go_ret
    exact ⟨_, rfl, HF, hb⟩

set_option maxRecDepth 100000 in
set_option maxHeartbeats 4000000 in
/-- SameNode of two nodes without attributes. -/
theorem sameNode_tells (n m : Nd) (cv cv' : Value) (w : World) (hc : StrsAt w.heap.size w cv n.cls) (hc' : StrsAt w.heap.size w cv' m.cls) :
    Calls Try.prog 10 #[.agg #[.int .i64 n.parent, .string n.tag, .string n.id, cv, .slice none 0 0], .agg #[.int .i64 m.parent, .string m.tag, .string m.id, cv', .slice none 0 0]] w fun e w' => ∃ t : Bool, e = .returned (.bool t) ∧ Hid (t = true → n.parent = m.parent ∧ n.tag = m.tag ∧ n.id = m.id ∧ n.cls = m.cls) ∧ Below w.heap.size w w' := by
  obtain ⟨pc, cc, rfl⟩ := hc.len
  obtain ⟨pc', cc', rfl⟩ := hc'.len
  obtain ⟨wa, hwa⟩ : ∃ wa, w.alloc (.cells #[.int .i64 n.parent, .string n.tag, .string n.id, .slice pc n.cls.length cc, .slice none 0 0] 33) = wa := ⟨_, rfl⟩
  have ba : Below w.heap.size w wa := by rw [← hwa]; exact (Below.refl _ _).alloc (Nat.le_refl _) _
  have ka : Blk wa w.heap.size 33 [.int .i64 n.parent, .string n.tag, .string n.id, .slice pc n.cls.length cc, .slice none 0 0] := by rw [← hwa]; exact Blk.new w 33 _
  have sa : wa.heap.size = w.heap.size + 1 := by rw [← hwa, World.size_alloc]
  obtain ⟨wb, hwb⟩ : ∃ wb, wa.alloc (.cells #[.int .i64 m.parent, .string m.tag, .string m.id, .slice pc' m.cls.length cc', .slice none 0 0] 33) = wb := ⟨_, rfl⟩
  have bb : Below wa.heap.size wa wb := by rw [← hwb]; exact (Below.refl _ _).alloc (Nat.le_refl _) _
  have kb : Blk wb wa.heap.size 33 [.int .i64 m.parent, .string m.tag, .string m.id, .slice pc' m.cls.length cc', .slice none 0 0] := by rw [← hwb]; exact Blk.new wa 33 _
  rw [sa] at kb
  have kab := ka.next bb
  have b2 := below_next ba bb
  have hs := sameStrs_tells _ _ n.cls m.cls wb (hc.next b2) (hc'.next b2)
  have HWW : Hid ((w.alloc (.cells #[.int .i64 n.parent, .string n.tag, .string n.id, .slice pc n.cls.length cc, .slice none 0 0] 33)).alloc (.cells #[.int .i64 m.parent, .string m.tag, .string m.id, .slice pc' m.cls.length cc', .slice none 0 0] 33) = wb) := by
    show _ = _
    rw [hwa, hwb]
  obtain ⟨⟨x0, x1, x2, x3, x4⟩, _⟩ := blk5 kab
  obtain ⟨⟨y0, y1, y2, y3, y4⟩, _⟩ := blk5 kb
  have HKA : Hid (Blk wb w.heap.size 33 [.int .i64 n.parent, .string n.tag, .string n.id, .slice pc n.cls.length cc, .slice none 0 0] ∧ Blk wb (w.heap.size + 1) 33 [.int .i64 m.parent, .string m.tag, .string m.id, .slice pc' m.cls.length cc', .slice none 0 0]) := ⟨kab, kb⟩
  have NO : Hid (false = true → n.parent = m.parent ∧ n.tag = m.tag ∧ n.id = m.id ∧ n.cls = m.cls) := fun h => (by cases h)
  have EQ : Hid (∀ z u : ByteArray, (z.toList == u.toList) = true → z = u) := fun z u h => by
    have h2 : z.toList = u.toList := by simpa using h
    rw [ByteArray.toList_eq, ByteArray.toList_eq] at h2
    exact ByteArray.ext (Array.toList_inj.1 h2)
  have YES : Hid ((n.parent == m.parent) = true → (n.tag.toList == m.tag.toList) = true → (n.id.toList == m.id.toList) = true → n.cls = m.cls → n.parent = m.parent ∧ n.tag = m.tag ∧ n.id = m.id ∧ n.cls = m.cls) := fun h1 h2 h3 h4 => ⟨by simpa using h1, EQ.out _ _ h2, EQ.out _ _ h3, h4⟩
  clear hc hc' ka kb kab bb ba sa hwa hwb
  obtain ⟨np, nt, ni, nc, na⟩ := n
  obtain ⟨mp, mt, mi, mc, ma⟩ := m
  simp only at *
  cases e1 : (np == mp) with
  | false =>
    have e1' : (np != mp) = true := by simpa using e1
    go_enter Try.func10, Try.ntmps10
    go_upto_region 1 with fail
    rw [show _ = wb from HWW.out]
    go_wp2
    go_ret
    exact ⟨_, rfl, NO, b2⟩
  | true =>
    have e1' : (np != mp) = false := by simpa using e1
    cases e2 : (nt.toList == mt.toList) with
    | false =>
      go_enter Try.func10, Try.ntmps10
      go_upto_region 1 with fail
      rw [show _ = wb from HWW.out]
      go_wp2
      go_ret
      exact ⟨_, rfl, NO, b2⟩
    | true =>
      cases e3 : (ni.toList == mi.toList) with
      | false =>
        go_enter Try.func10, Try.ntmps10
        go_upto_region 1 with fail
        rw [show _ = wb from HWW.out]
        go_wp2
        go_ret
        exact ⟨_, rfl, NO, b2⟩
      | true =>
        have YES2 : Hid (nc = mc → np = mp ∧ nt = mt ∧ ni = mi ∧ nc = mc) := fun h => YES.out e1 e2 e3 h
        go_enter Try.func10, Try.ntmps10
        go_upto_region 1 with fail
        rw [show _ = wb from HWW.out]
        go_wp2_with fail
        refine hs.mono ?_
        clear hs x0 x1 x2 x3 x4 y0 y1 y2 y3 y4
        rintro e w3 ⟨t, rfl, HT, b3⟩
        have B3 := below_next b2 b3
        cases t with
        | false =>
          go_wp2
          go_ret
          exact ⟨_, rfl, NO, B3⟩
        | true =>
          have FIN : Hid (true = true → np = mp ∧ nt = mt ∧ ni = mi ∧ nc = mc) := fun _ => YES2.out (HT.out rfl)
          obtain ⟨⟨x0, x1, x2, x3, x4⟩, _⟩ := blk5 (HKA.out.1.next b3)
          obtain ⟨⟨y0, y1, y2, y3, y4⟩, _⟩ := blk5 (HKA.out.2.next b3)
          go_wp2
          go_loopw [5] (fun i wr => i = .int .i64 0 ∧ wr = w3) (fun _ _ => 0)
          case atStart => exact ⟨rfl, rfl⟩
          case round =>
            obtain ⟨rfl, rfl⟩ := hrel
            go_wp2
            go_ret
            exact ⟨_, rfl, fun _ => FIN.out trivial, B3⟩

end Go.Proofs.Ytcdimmabnklcnaa.Dm

namespace Go.Proofs.Ytcdimmabnklcnaa.Rf
open Go Go.RowKit Sl Wg Go.Proofs.Ytcdimmabnklcnaa.Tre

set_option maxRecDepth 100000 in
theorem beside_any (comb : Int) (w : World) : Calls Try.prog 23 #[.int .i64 comb] w fun r w' => r = .returned (.bool (comb == 3 || comb == 4)) ∧ w' = w := by
  cases h3 : (comb == 3) with
  | true =>
    go_enter Try.func23, Try.ntmps23
    go_wp2
    go_ret
    exact ⟨rfl, rfl⟩
  | false =>
    cases h4 : (comb == 4) with
    | true =>
      go_enter Try.func23, Try.ntmps23
      go_wp2
      go_ret
      exact ⟨rfl, rfl⟩
    | false =>
      go_enter Try.func23, Try.ntmps23
      go_wp2
      go_ret
      exact ⟨rfl, rfl⟩
set_option maxRecDepth 100000 in
set_option maxHeartbeats 1000000 in
theorem unnamed_any (tag : ByteArray) (p1 p2 p3 p4 : Option Addr) (n1 n2 n3 n4 c1 c2 c3 c4 : Nat) (w : World) :
    Calls Try.prog 24 #[.agg #[.string tag, .slice p1 n1 c1, .slice p2 n2 c2, .slice p3 n3 c3, .slice p4 n4 c4]] w fun r w' => r = .returned (.bool (decide (0 < n3) || decide (0 < n4))) ∧ Below w.heap.size w w' := by
  have b1 : Below w.heap.size w (w.alloc (.cells #[.string tag, .slice p1 n1 c1, .slice p2 n2 c2, .slice p3 n3 c3, .slice p4 n4 c4] 61)) := (Below.refl _ _).alloc (Nat.le_refl _) _
  cases h3 : decide (0 < n3) with
  | true =>
    have h3' : decide ((0 : Int) < (n3 : Int)) = true := decide_eq_true (by have := of_decide_eq_true h3; omega)
    go_enter Try.func24, Try.ntmps24
    go_wp2
    go_ret
    exact ⟨rfl, b1⟩
  | false =>
    have h3' : decide ((0 : Int) < (n3 : Int)) = false := decide_eq_false (by have := of_decide_eq_false h3; omega)
    cases h4 : decide (0 < n4) with
    | true =>
      have h4' : decide ((0 : Int) < (n4 : Int)) = true := decide_eq_true (by have := of_decide_eq_true h4; omega)
      go_enter Try.func24, Try.ntmps24
      go_wp2
      go_ret
      exact ⟨rfl, b1⟩
    | false =>
      have h4' : decide ((0 : Int) < (n4 : Int)) = false := decide_eq_false (by have := of_decide_eq_false h4; omega)
      go_enter Try.func24, Try.ntmps24
      go_wp2
      go_ret
      exact ⟨rfl, b1⟩
set_option maxRecDepth 100000 in
set_option maxHeartbeats 2000000 in
theorem needs1_any (p : Pt) (p1 p2 p3 p4 : Option Addr) (n1 n2 c1 c2 c3 c4 : Nat) (w : World) :
    Calls Try.prog 22 #[.agg #[.int .i64 p.1, .string p.2.tag, .slice p1 n1 c1, .slice p2 n2 c2, .slice p3 p.2.attrs.length c3, .slice p4 p.2.pss.length c4]] w fun r w' => r = .returned (.bool (partN p)) ∧ Below w.heap.size w w' := by
  unfold partN
  obtain ⟨comb, c⟩ := p
  simp only
  obtain ⟨n3, hn3⟩ : ∃ n, c.attrs.length = n := ⟨_, rfl⟩
  obtain ⟨n4, hn4⟩ : ∃ n, c.pss.length = n := ⟨_, rfl⟩
  obtain ⟨tag, ht⟩ : ∃ t, c.tag = t := ⟨_, rfl⟩
  rw [hn3, hn4, ht]
  clear hn3 hn4 ht c
  obtain ⟨W, hW⟩ : ∃ W, w.alloc (.cells #[.int .i64 comb, .string tag, .slice p1 n1 c1, .slice p2 n2 c2, .slice p3 n3 c3, .slice p4 n4 c4] 63) = W := ⟨_, rfl⟩
  have b1 : Below w.heap.size w W := by rw [← hW]; exact (Below.refl _ _).alloc (Nat.le_refl _) _
  have hb := beside_any comb W
  have hu := unnamed_any tag p1 p2 p3 p4 n1 n2 n3 n4 c1 c2 c3 c4 W
  have hcell : ∀ (j : Nat) (u : Value), [Value.int .i64 comb, .string tag, .slice p1 n1 c1, .slice p2 n2 c2, .slice p3 n3 c3, .slice p4 n4 c4][j]? = some u → W.cell? ⟨w.heap.size, j, none⟩ = some u := fun j u hj => by
    rw [← hW, cell_of_block (heap_alloc_new w _)]
    simpa using hj
  have x0 := hcell 0 _ rfl
  have x1 := hcell 1 _ rfl
  have x2 := hcell 2 _ rfl
  have x3 := hcell 3 _ rfl
  have x4 := hcell 4 _ rfl
  have x5 := hcell 5 _ rfl
  clear hcell
  obtain ⟨BS, hBS⟩ : ∃ x, (comb == 3 || comb == 4) = x := ⟨_, rfl⟩
  obtain ⟨UN, hUN⟩ : ∃ x, (decide (0 < n3) || decide (0 < n4)) = x := ⟨_, rfl⟩
  rw [hBS] at hb ⊢
  rw [hUN] at hu ⊢
  clear hBS hUN
  go_enter Try.func22, Try.ntmps22
  go_wp2_with fail
  refine hb.mono ?_
  clear hb
  rintro r X ⟨rfl, hx⟩
  obtain rfl := hx.symm
  clear hx
  cases BS with
  | true =>
    clear hu
    go_wp2
    go_ret
    exact ⟨rfl, b1⟩
  | false =>
    go_wp2_with fail
    refine hu.mono ?_
    clear hu
    rintro r X2 ⟨rfl, b2⟩
    have b3 := below_next b1 b2
    go_wp2
    go_ret
    exact ⟨rfl, b3⟩
set_option maxRecDepth 100000 in
set_option maxHeartbeats 2000000 in
theorem indexPart_any (d : Nat) (s : Sel) (p : Option Addr) (c : Nat) (w : World) (hs : PartsR d w.heap.size w (.slice p s.length c) s) :
    Calls Try.prog 33 #[.slice p s.length c, .func (.func 22) #[] #[]] w fun r w' => (∃ i : Int, r = .returned (.int .i64 i) ∧ decide (0 ≤ i) = needsV s) ∧ Below w.heap.size w w' := by
  have hsh := hs.short
  unfold maxLen at hsh
  have HS : Hid (PartsR d w.heap.size w (.slice p s.length c) s) := hs
  clear hs
  go_enter Try.func33, Try.ntmps33
  go_wp2
  go_loopw [8] (fun y wr => ∃ (i : Nat), y = .int .i64 i ∧ i ≤ s.length ∧ Hid ((s.take i).any partN = false) ∧ Below w.heap.size w wr) (fun y _ => s.length - (intOf y).toNat)
  case atStart => exact ⟨0, rfl, Nat.zero_le _, rfl, Below.refl _ _⟩
  case round =>
    obtain ⟨i, rfl, hi, HNO, bw⟩ := hrel
    by_cases hlt : i < s.length
    · obtain ⟨q, hq⟩ : ∃ q, s[i]? = some q := ⟨_, List.getElem?_eq_getElem hlt⟩
      obtain ⟨bk, off, vi, vk, va, vp, rfl, hbk, hc1, hc2, ⟨x0, x1, x2, x3, x4, x5⟩, r1, r2, r3, r4⟩ := PartsR.get ((HS.out.below bw)) hq
      obtain ⟨q1, m1, rfl⟩ := r1.len
      obtain ⟨q2, m2, rfl⟩ := r2.len
      obtain ⟨q3, m3, rfl⟩ := r3.len
      obtain ⟨q4, m4, rfl⟩ := r4.len
      have h := needs1_any q q1 q2 q3 q4 q.2.ids.length q.2.classes.length m1 m2 m3 m4 wr
      have hii : (i : Int) < (s.length : Int) := by omega
      have HXX : Hid (s[i]? = some q) := hq
      unfold maxLen at hc2
      clear r1 r2 r3 r4 hq
      go_wp2_with fail
      refine h.mono ?_
      clear h x0 x1 x2 x3 x4 x5
      rintro r W' ⟨rfl, b2⟩
      have b3 := below_next bw b2
      clear b2
      cases hv : partN q with
      | true =>
        have FIN : Hid (decide ((0 : Int) ≤ (i : Int)) = needsV s) := by
          show _ = _
          rw [decide_eq_true (by omega)]
          symm
          show s.any _ = true
          rw [List.any_eq_true]
          exact ⟨q, List.mem_of_getElem? HXX.out, hv⟩
        clear hv
        go_wp2
        go_ret
        exact ⟨⟨i, rfl, FIN.out⟩, b3⟩
      | false =>
        have FIN : Hid ((s.take (i + 1)).any partN = false) := by
          show _ = _
          rw [List.take_add_one, show s[i]? = some q from HXX.out, List.any_append, show (s.take i).any _ = false from HNO.out]
          simp [hv]
        clear hv
        go_wp2
        go_roundw
        case rel => exact ⟨i + 1, rfl, by omega, FIN, b3⟩
        case measure => simp [intOf]; omega
    · have hii : ¬ ((i : Int) < (s.length : Int)) := by omega
      have FIN : Hid (decide ((0 : Int) ≤ (-1 : Int)) = needsV s) := by
        have h := HNO.out
        rw [List.take_of_length_le (by omega)] at h
        show _ = s.any _
        rw [show s.any _ = false from h]
        rfl
      go_wp2
      go_ret
      exact ⟨⟨-1, rfl, FIN.out⟩, bw⟩
set_option maxRecDepth 100000 in
set_option maxHeartbeats 1000000 in
/-- reval.Needs at every selector. -/
theorem needs_any (d : Nat) (s : Sel) (v : Value) (w : World) (hs : PartsR d w.heap.size w v s) :
    Calls Try.prog 11 #[.agg #[v]] w fun r w' => r = .returned (.bool (needsV s)) ∧ Below w.heap.size w w' := by
  obtain ⟨p, c, rfl⟩ := RowT.len hs
  obtain ⟨W, hW⟩ : ∃ W, w.alloc (.cells #[.slice p s.length c] 39) = W := ⟨_, rfl⟩
  have b1 : Below w.heap.size w W := by rw [← hW]; exact (Below.refl _ _).alloc (Nat.le_refl _) _
  have k1 : Blk W w.heap.size 39 [.slice p s.length c] := by rw [← hW]; exact Blk.new w 39 _
  have hi := indexPart_any d s p c W (PartsR.next hs b1)
  have hcf : Calls Try.prog 21 #[.slice p s.length c, .func (.func 22) #[] #[]] W fun r w' => r = .returned (.bool (needsV s)) ∧ Below W.heap.size W w' := by
    clear hW b1 k1 hs
    go_enter Try.func21, Try.ntmps21
    go_wp2_with fail
    refine hi.mono ?_
    clear hi
    rintro r W' ⟨⟨i, rfl, hi⟩, hst⟩
    have HH : Hid (_ = _) := hi
    clear hi
    go_wp2
    go_ret
    exact ⟨by rw [← show decide (0 ≤ i) = _ from HH.out]; rfl, hst⟩
  have c0 := (blk1 k1).1
  clear hi hs k1
  go_enter Try.func11, Try.ntmps11
  go_wp2_with fail
  refine hcf.mono ?_
  clear hcf
  rintro r X ⟨rfl, bX⟩
  have b9 := below_next b1 bX
  go_wp2
  go_ret
  exact ⟨rfl, b9⟩

end Go.Proofs.Ytcdimmabnklcnaa.Rf
