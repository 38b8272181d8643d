/- package dom: has, add. -/
import Derived.Test.YtgjfapdnobhkcabDmKept
import Derived.Test.YtgjfapdnobhkcabDmTree
import Derived.Test.YtgjfapdnobhkcabRgn
namespace Go.Proofs.Ytgjfapdnobhkcab.Dm
open Go Go.RowKit

set_option maxRecDepth 100000 in
theorem has_any (b tb g cap : Nat) (qs : List Em) (e : Int) (w : World) (hT : Tr b w tb g cap qs) :
    Calls Try.prog 34 #[.pointer (some ⟨tb, 0, none⟩), .int .i64 e] w fun x w' => x = .returned (.bool (decide (0 ≤ e ∧ e < qs.length))) ∧ w' = w := by
  have c0 := (blk1 hT.blk).1
  clear hT
  by_cases h0 : 0 ≤ e
  · by_cases h1 : e < (qs.length : Int)
    · rw [decide_eq_true ⟨h0, h1⟩]
      go_enter Try.func34, Try.ntmps34
      go_wp2
      go_ret
      exact ⟨rfl, rfl⟩
    · rw [decide_eq_false (fun h => h1 h.2)]
      go_enter Try.func34, Try.ntmps34
      go_wp2
      go_ret
      exact ⟨rfl, rfl⟩
  · rw [decide_eq_false (fun h => h0 h.1)]
    have h2 : decide (0 ≤ e) = false := decide_eq_false h0
    go_enter Try.func34, Try.ntmps34
    go_wp2
    go_ret
    exact ⟨rfl, rfl⟩

/-- What add leaves. -/
def Added (b tb g cap : Nat) (qs : List Em) (n : Nd) (w : World) (e : Ending) (w' : World) : Prop :=
  ((∃ qs', addV (qs.map Em.e) n = .ok (qs'.map Em.e) ∧ e = .returned (.int .i64 0) ∧ Tr b w' tb g cap qs') ∨ (∃ x, addV (qs.map Em.e) n = .error x ∧ e = .returned (.int .i64 x))) ∧ Below b w w'

theorem slice_one {X : World} {b : Nat} {e : TypeId} {s : Nat} {v : Value} {n : Nat} {xs : List Value} (h : X.ownsRow b e s v n xs) : v.oneCell' = true := by
  obtain ⟨q, c, rfl⟩ := owns_form h
  rfl
theorem emOne {X Y : World} {b c : Nat} {p d m : Int} {t i : ByteArray} {cv av : Value} {l : List ByteArray} {a : List (ByteArray × ByteArray)} (hc : StrRow b X cv l) (ha : PairRow c Y av a) : ∀ u ∈ ([.int .i64 p, .string t, .string i, cv, av, .int .i64 d, .int .i64 m, .slice none 0 0] : List Value), u.oneCell' = true := fun u hu => by
  simp only [List.mem_cons, List.not_mem_nil, or_false] at hu
  rcases hu with rfl | rfl | rfl | rfl | rfl | rfl | rfl | rfl
  · rfl
  · rfl
  · rfl
  · exact slice_one hc
  · exact slice_one ha
  · rfl
  · rfl
  · rfl
def elVal (n : Nd) (cv av : Value) (d p : Int) : Value := .agg #[.int .i64 n.parent, .string n.tag, .string n.id, cv, av, .int .i64 d, .int .i64 p, .slice none 0 0]

set_option maxRecDepth 100000 in
set_option maxHeartbeats 4000000 in
theorem add_first (b tb g cap : Nat) (n : Nd) (cv av : Value) (w : World) (hT : Tr b w tb g cap []) (hc : StrsAt b w cv n.cls) (ha : PairsAt b w av n.ats) (hN : NdOk n) (hroom : 0 < cap) :
    Calls Try.prog 21 #[.pointer (some ⟨tb, 0, none⟩), ndVal n cv av] w (Added b tb g cap [] n w) := by
  unfold Added ndVal
  have hb0 : b ≤ w.heap.size := Nat.le_trans hT.low (Nat.le_of_lt hT.blk.lt)
  have bA : Below w.heap.size w (w.alloc (.cells #[.int .i64 n.parent, .string n.tag, .string n.id, cv, av] 28)) := (Below.refl _ _).alloc (Nat.le_refl _) _
  have kA : Blk (w.alloc (.cells #[.int .i64 n.parent, .string n.tag, .string n.id, cv, av] 28)) w.heap.size 28 [.int .i64 n.parent, .string n.tag, .string n.id, cv, av] := Blk.new w 28 [.int .i64 n.parent, .string n.tag, .string n.id, cv, av]
  obtain ⟨pc, cc, rfl⟩ := hc.len
  obtain ⟨pa, ca, rfl⟩ := ha.len
  have hTA := hT.next bA
  have hcA := hc.below (bA.mono hb0)
  have haA := ha.below (bA.mono hb0)
  have bbA := bA.mono hb0
  have hs0 := bA.size
  obtain ⟨i0, hi, hz0, hz1, hz2⟩ := info_parts infoEl
  clear bA hc ha hT
  go_enter Try.func21, Try.ntmps21
  go_upto_region 1 with fail
  generalize w.alloc (.cells #[.int .i64 n.parent, .string n.tag, .string n.id, .slice pc n.cls.length cc, .slice pa n.ats.length ca] 28) = WA at *
  obtain ⟨c0, f0⟩ := blk1 hTA.blk
  simp only [List.length_nil] at c0
  obtain ⟨⟨a0, a1, a2, a3, a4⟩, _⟩ := blk5 kA
  by_cases hp : n.parent = -1
  · have hadd : addV (List.map Em.e []) n = .ok [⟨lowN n, 0, 1, []⟩] := by unfold addV; simp [hp]
    have HAdd : Hid (_ = _) := hadd
    have HN : Hid (NdOk n) := hN
    obtain ⟨parent, tag, id, cls, ats⟩ := n
    simp only at hp
    subst hp
    clear hN hadd
    go_upto_region 5 with fail
    have HK : Hid (Calls Try.prog 33 #[ndVal ⟨-1, tag, id, cls, ats⟩ (.slice pc cls.length cc) (.slice pa ats.length ca)] WA.drew _) := kept_any ⟨-1, tag, id, cls, ats⟩ (.slice pc cls.length cc) (.slice pa ats.length ca) WA.drew ((hcA.mono (by omega : b ≤ WA.heap.size)).next (below_drew (Below.refl _ _))) ((haA.mono (by omega : b ≤ WA.heap.size)).next (below_drew (Below.refl _ _))) HN.out
    unfold ndVal at HK
    have HS : Hid (∀ X : World, Below WA.heap.size WA X → X.cell? ⟨tb, 0, none⟩ = some (.slice (some ⟨g, 0, none⟩) 0 cap) ∧ X.cell? ⟨w.heap.size, 0, none⟩ = some (.int .i64 (-1)) ∧ X.cell? ⟨w.heap.size, 1, none⟩ = some (.string tag) ∧ X.cell? ⟨w.heap.size, 2, none⟩ = some (.string id) ∧ X.cell? ⟨w.heap.size, 3, none⟩ = some (.slice pc cls.length cc) ∧ X.cell? ⟨w.heap.size, 4, none⟩ = some (.slice pa ats.length ca)) := fun X hX => by
      obtain ⟨⟨e0, e1, e2, e3, e4⟩, _⟩ := blk5 (kA.next hX)
      exact ⟨(blk1 (hTA.next hX).blk).1, e0, e1, e2, e3, e4⟩
    have HT : Hid (Tr b WA tb g cap []) := hTA
    have HB : Hid (Below b w WA) := bbA
    refine Rg.wpD_begin [1, 2, 3, 4, 5, 6, 7, 8] (fun X => X.cell? ⟨tb, 0, none⟩ = some (.slice (some ⟨g, 0, none⟩) 0 cap) ∧ X.cell? ⟨w.heap.size, 0, none⟩ = some (.int .i64 (-1)) ∧ X.cell? ⟨w.heap.size, 1, none⟩ = some (.string tag) ∧ X.cell? ⟨w.heap.size, 2, none⟩ = some (.string id) ∧ X.cell? ⟨w.heap.size, 3, none⟩ = some (.slice pc cls.length cc) ∧ X.cell? ⟨w.heap.size, 4, none⟩ = some (.slice pa ats.length ca)) (by kernel_rfl) ?_
    have q0 : Below WA.heap.size WA WA.drew := below_drew (Below.refl _ _)
    have HeldS := HS.out _ q0
    clear hTA kA bbA c0 f0 a0 a1 a2 a3 a4 hcA haA
    refine Rg.wpD_pure 0 (v := ?_) (by simp only [List.getElem?_toArray, List.getElem?_cons_zero]; rfl) (by kernel_rfl) (by kernel_rfl) (by intro _ _ _ h; exact h) (by rfl) (fun wz => ?_) ?_
    rotate_left
    · first | (go_simp; done) | (go_simp; with_reducible rfl)
    simp only [Act.put, List.setIfInBounds_toArray, List.set_cons_succ, List.set_cons_zero]
    refine Rg.wpD_load 1 (v := ?_) (by simp only [List.getElem?_toArray, List.getElem?_cons_succ, List.getElem?_cons_zero]; rfl) (by kernel_rfl) (by kernel_rfl) (by intro _ _ _ h; exact h) HeldS (by rfl) (fun wz hz => ?_) ?_
    rotate_left
    · first | (go_simp; done) | (go_simp; with_reducible rfl)
    simp only [Act.put, List.setIfInBounds_toArray, List.set_cons_succ, List.set_cons_zero]
    refine Rg.wpD_load 2 (v := ?_) (by simp only [List.getElem?_toArray, List.getElem?_cons_succ, List.getElem?_cons_zero]; rfl) (by kernel_rfl) (by kernel_rfl) (by intro _ _ _ h; exact h) HeldS (by rfl) (fun wz hz => ?_) ?_
    rotate_left
    · first | (go_simp; done) | (go_simp; with_reducible rfl)
    simp only [Act.put, List.setIfInBounds_toArray, List.set_cons_succ, List.set_cons_zero]
    refine Rg.wpD_load 3 (v := ?_) (by simp only [List.getElem?_toArray, List.getElem?_cons_succ, List.getElem?_cons_zero]; rfl) (by kernel_rfl) (by kernel_rfl) (by intro _ _ _ h; exact h) HeldS (by rfl) (fun wz hz => ?_) ?_
    rotate_left
    · first | (go_simp; done) | (go_simp; with_reducible rfl)
    simp only [Act.put, List.setIfInBounds_toArray, List.set_cons_succ, List.set_cons_zero]
    refine Rg.wpD_load 4 (v := ?_) (by simp only [List.getElem?_toArray, List.getElem?_cons_succ, List.getElem?_cons_zero]; rfl) (by kernel_rfl) (by kernel_rfl) (by intro _ _ _ h; exact h) HeldS (by rfl) (fun wz hz => ?_) ?_
    rotate_left
    · first | (go_simp; done) | (go_simp; with_reducible rfl)
    simp only [Act.put, List.setIfInBounds_toArray, List.set_cons_succ, List.set_cons_zero]
    refine Rg.wpD_load 5 (v := ?_) (by simp only [List.getElem?_toArray, List.getElem?_cons_succ, List.getElem?_cons_zero]; rfl) (by kernel_rfl) (by kernel_rfl) (by intro _ _ _ h; exact h) HeldS (by rfl) (fun wz hz => ?_) ?_
    rotate_left
    · first | (go_simp; done) | (go_simp; with_reducible rfl)
    simp only [Act.put, List.setIfInBounds_toArray, List.set_cons_succ, List.set_cons_zero]
    refine Rg.wpD_do 6 (by kernel_rfl) (by simp only [List.getElem?_toArray, List.getElem?_cons_succ, List.getElem?_cons_zero]; rfl) (fun K hK => ?_)
    go_simp
    go_at_call 33
    refine Calls.mono HK.out ?_
    rintro e wK ⟨cv', av', rfl, hcK, haK, bK⟩
    have qK : Below WA.heap.size WA wK := below_next q0 bK
    refine hK _ _ (fun _ => HS.out _ qK) ?_
    clear HeldS hK K bK
    have HeldS := HS.out _ qK
    simp only [lowN]
    refine Rg.wpD_load 7 (v := ?_) (by simp only [List.getElem?_toArray, List.getElem?_cons_succ, List.getElem?_cons_zero]; rfl) (by kernel_rfl) (by kernel_rfl) (by intro _ _ _ h; exact h) HeldS (by rfl) (fun wz hz => ?_) ?_
    rotate_left
    · first | (go_simp; done) | (go_simp; with_reducible rfl)
    simp only [Act.put, List.setIfInBounds_toArray, List.set_cons_succ, List.set_cons_zero]
    refine Rg.wpD_do 8 (by kernel_rfl) (by simp only [List.getElem?_toArray, List.getElem?_cons_succ, List.getElem?_cons_zero]; rfl) (fun K hK => ?_)
    go_simp
    have qL : Below WA.heap.size WA (wK.alloc (.cells #[.int .i64 (-1), .string (lowS tag), .string id, cv', av', .int .i64 0, .int .i64 1, .slice none 0 0] 87)) := qK.alloc qK.size _
    have hnew := cells_plain wK [.int .i64 (-1), .string (lowS tag), .string id, cv', av', .int .i64 0, .int .i64 1, .slice none 0 0] 87
    refine hK _ _ (fun _ => HS.out _ qL) ?_
    clear HeldS hK K
    have HTK := HT.out.next qL
    have H1 : ∀ u ∈ ([.int .i64 (-1), .string (lowS tag), .string id, cv', av', .int .i64 0, .int .i64 1, .slice none 0 0] : List Value), u.oneCell' = true := emOne hcK haK
    refine Rg.wpD_do 9 (by kernel_rfl) (by simp only [List.getElem?_toArray, List.getElem?_cons_succ, List.getElem?_cons_zero]; rfl) (fun K hK => ?_)
    refine Rg.step_append_fits rfl _ _ 68 rfl b 87 i0 8 Try.underlying68 hi hz1 g 0 cap [] rfl HTK.row ⟨wK.heap.size, 0, none⟩ 1 1 [.int .i64 (-1), .string (lowS tag), .string id, cv', av', .int .i64 0, .int .i64 1, .slice none 0 0] rfl rfl hnew H1 (by omega) ?_
    intro w7 hown7 hgrow7
    refine hK _ _ (fun h => absurd h (by decide)) ?_
    clear hK K hnew H1
    have hcL := hcK.next ((Below.refl _ wK).alloc (Nat.le_refl _) (.cells #[.int .i64 (-1), .string (lowS tag), .string id, cv', av', .int .i64 0, .int .i64 1, .slice none 0 0] 87))
    have haL := haK.next ((Below.refl _ wK).alloc (Nat.le_refl _) (.cells #[.int .i64 (-1), .string (lowS tag), .string id, cv', av', .int .i64 0, .int .i64 1, .slice none 0 0] 87))
    have hTz := HT.out.push (q := ⟨⟨lowN ⟨-1, tag, id, cls, ats⟩, 0, 1, []⟩, cv', av', .slice none 0 0⟩) qL rfl rfl hcL haL hown7 hgrow7
    have b7 := (HB.out.trans (qL.mono (by omega))).grown hgrow7 (by have := qL.size; omega) (fun r e => by cases e; exact HT.out.glt.1)
    have bz := below_grown b7 (grown_set w7 tb 0 (.slice (some ⟨g, 0, none⟩) (0 + 1) cap)) (Nat.le_trans hb0 b7.size) HT.out.low
    have k7 := HTK.blk.kept hgrow7 (fun e => row_blk (e := 87) (t := 70) (by decide) HTK.row HTK.blk e.symm)
    obtain ⟨d7, f7⟩ := blk1 k7
    clear HTK qL qK hcL haL hcK haK b7 k7
    refine Rg.wpD_pure 10 (v := ?_) (by simp only [List.getElem?_toArray, List.getElem?_cons_succ, List.getElem?_cons_zero]; rfl) (by kernel_rfl) (by kernel_rfl) (by intro _ _ _ h; exact h) (by rfl) (fun wz => ?_) ?_
    rotate_left
    · first | (go_simp; done) | (go_simp; with_reducible rfl)
    simp only [Act.put, List.setIfInBounds_toArray, List.set_cons_succ, List.set_cons_zero]
    refine Rg.wpD_pure 11 (v := ?_) (by simp only [List.getElem?_toArray, List.getElem?_cons_succ, List.getElem?_cons_zero]; rfl) (by kernel_rfl) (by kernel_rfl) (by intro _ _ _ h; exact h) (by rfl) (fun wz => ?_) ?_
    rotate_left
    · first | (go_simp; done) | (go_simp; with_reducible rfl)
    simp only [Act.put, List.setIfInBounds_toArray, List.set_cons_succ, List.set_cons_zero]
    refine Rg.wpD_do 12 (by kernel_rfl) (by simp only [List.getElem?_toArray, List.getElem?_cons_succ, List.getElem?_cons_zero]; rfl) (fun K hK => ?_)
    go_simp
    refine hK _ _ (fun h => absurd h (by decide)) ?_
    clear hK K
    refine Rg.wpD_done (by kernel_rfl) ?_
    go_wp2
    go_ret
    exact ⟨.inl ⟨[⟨⟨lowN ⟨-1, tag, id, cls, ats⟩, 0, 1, []⟩, cv', av', .slice none 0 0⟩], HAdd.out, rfl, hTz⟩, bz⟩
  · have hp' : (n.parent != -1) = true := by simpa using hp
    have hadd : addV (List.map Em.e []) n = .error 10 := by unfold addV; simp [hp]
    have HAdd : Hid (_ = _) := hadd
    obtain ⟨parent, tag, id, cls, ats⟩ := n
    simp only at hp hp' a0
    clear hadd
    go_wp2
    go_ret
    exact ⟨.inr ⟨10, HAdd.out, rfl⟩, bbA⟩


theorem getD_some {l : List El} {k : Nat} {q : El} (h : l[k]? = some q) : l.getD k zeroEl = q := by simp [List.getD, h]

set_option maxRecDepth 100000 in
set_option maxHeartbeats 8000000 in
theorem add_more (b tb g cap : Nat) (qs : List Em) (n : Nd) (cv av : Value) (w : World) (hT : Tr b w tb g cap qs) (hc : StrsAt b w cv n.cls) (ha : PairsAt b w av n.ats) (hN : NdOk n) (hroom : qs.length < cap) (h0 : 0 < qs.length) (hl : qs.length ≤ 4096)
    (hch : ∀ (j : Nat) (q : Em), qs[j]? = some q → q.e.ch.length ≤ 4096 ∧ q.e.depth ≤ 256) :
    Calls Try.prog 21 #[.pointer (some ⟨tb, 0, none⟩), ndVal n cv av] w (Added b tb g cap qs n w) := by
  unfold Added ndVal
  have hb0 : b ≤ w.heap.size := Nat.le_trans hT.low (Nat.le_of_lt hT.blk.lt)
  have bA : Below w.heap.size w (w.alloc (.cells #[.int .i64 n.parent, .string n.tag, .string n.id, cv, av] 28)) := (Below.refl _ _).alloc (Nat.le_refl _) _
  have kA : Blk (w.alloc (.cells #[.int .i64 n.parent, .string n.tag, .string n.id, cv, av] 28)) w.heap.size 28 [.int .i64 n.parent, .string n.tag, .string n.id, cv, av] := Blk.new w 28 [.int .i64 n.parent, .string n.tag, .string n.id, cv, av]
  obtain ⟨pc, cc, rfl⟩ := hc.len
  obtain ⟨pa, ca, rfl⟩ := ha.len
  have hTA := hT.next bA
  have hcA := hc.below (bA.mono hb0)
  have haA := ha.below (bA.mono hb0)
  have bbA := bA.mono hb0
  have hs0 := bA.size
  have hlt0 : w.heap.size < (w.alloc (.cells #[.int .i64 n.parent, .string n.tag, .string n.id, .slice pc n.cls.length cc, .slice pa n.ats.length ca] 28)).heap.size := by rw [World.size_alloc]; omega
  obtain ⟨i0, hi, hz0, hz1, hz2⟩ := info_parts infoEl
  obtain ⟨j0, hj, hx0, hx1, hx2⟩ := info_parts infoInt
  have hml : (qs.map Em.e).length = qs.length := List.length_map _
  have hn0 : ¬ (qs.map Em.e).length = 0 := by rw [hml]; omega
  have HCH : Hid (∀ (j : Nat) (q : Em), qs[j]? = some q → q.e.ch.length ≤ 4096 ∧ q.e.depth ≤ 256) := hch
  have HN : Hid (NdOk n) := hN
  have hq0 : ((qs.length : Int) == 0) = false := by simpa using (show ¬ qs.length = 0 by omega)
  clear bA hc ha hT hch hN
  go_enter Try.func21, Try.ntmps21
  go_upto_region 1 with fail
  generalize w.alloc (.cells #[.int .i64 n.parent, .string n.tag, .string n.id, .slice pc n.cls.length cc, .slice pa n.ats.length ca] 28) = WA at *
  obtain ⟨c0, f0⟩ := blk1 hTA.blk
  obtain ⟨⟨a0, a1, a2, a3, a4⟩, _⟩ := blk5 kA
  have hh := has_any b tb g cap qs n.parent WA hTA
  by_cases hin : 0 ≤ n.parent ∧ n.parent < (qs.length : Int)
  · rw [decide_eq_true hin] at hh
    obtain ⟨p, hp⟩ : ∃ p : Nat, n.parent = (p : Int) := ⟨n.parent.toNat, by omega⟩
    have hplt : p < qs.length := by omega
    obtain ⟨q, hq⟩ : ∃ q, qs[p]? = some q := ⟨_, List.getElem?_eq_getElem hplt⟩
    have hgd : (qs.map Em.e).getD n.parent.toNat zeroEl = q.e := getD_some (by rw [hp, Int.toNat_natCast, List.getElem?_map, hq]; rfl)
    have hadd : addV (qs.map Em.e) n = if q.e.depth = 256 then .error 11 else .ok (growV (qs.map Em.e) p q.e qs.length ++ [⟨lowN n, q.e.depth + 1, q.e.ch.length + 1, []⟩]) := by
      unfold addV
      rw [if_neg hn0, if_pos (by rw [hml]; exact hin), hgd, hp, Int.toNat_natCast, hml]
    have HAdd : Hid (_ = _) := hadd
    obtain ⟨hcl, hdl⟩ := HCH.out p q hq
    obtain ⟨x0, _, _, _, _, x5, x6, x7⟩ := hTA.get8 hq
    obtain ⟨parent, tag, id, cls, ats⟩ := n
    simp only at hp a0 a1 a2 a3 a4 hh
    subst hp
    clear hadd hgd hin hn0
    go_upto_region 7 with fail
    go_wp2_with fail
    refine hh.mono ?_
    clear hh
    rintro e w' ⟨rfl, rfl⟩
    have hpi : (p : Int) < (qs.length : Int) := by omega
    go_upto_region 9 with fail
    go_quiet (fail)
    have qN := below_drewN w' nq
    have hTN := hTA.next qN
    have kN := kA.next qN
    have hcN := hcA.below (qN.mono (Nat.le_trans hb0 hs0))
    have haN := haA.below (qN.mono (Nat.le_trans hb0 hs0))
    have bN := bbA.trans (qN.mono (Nat.le_trans hb0 hs0))
    have hltN : w.heap.size < (w'.drewN nq).heap.size := hlt0
    clear hTA kA hcA haA bbA c0 f0 a0 a1 a2 a3 a4 x0 x5 x6 x7 qN hs0 hlt0
    generalize w'.drewN nq = W1 at *
    obtain ⟨x0, _, _, _, _, x5, x6, x7⟩ := hTN.get8 hq
    by_cases hd : q.e.depth = 256
    · rw [hd] at x5
      have HAdd2 := HAdd.out
      rw [if_pos hd] at HAdd2
      have HAdd3 : Hid (_ = _) := HAdd2
      clear HAdd2 HAdd
      go_wp2
      go_ret
      exact ⟨.inr ⟨11, HAdd3.out, rfl⟩, bN⟩
    · have hdb : ((q.e.depth : Int) == 256) = false := by simpa using (show ¬ (q.e.depth : Int) = 256 by omega)
      have HAdd2 := HAdd.out
      rw [if_neg hd] at HAdd2
      have HAdd3 : Hid (_ = _) := HAdd2
      clear HAdd2 HAdd
      have hI := hTN.chs p q hq
      unfold IntRow at hI
      rw [chI_len] at hI
      obtain ⟨ph, ch, hv⟩ := owns_form hI
      rw [hv] at x7 hI
      have f7 : W1.frozen? ⟨g, p * 8 + 7, none⟩ = false := hTN.row.frozenAt _
      have HM : Hid (∀ (o : Obj) (w2 : World), (W1.alloc o).grownBy w2 (Value.slice ph q.e.ch.length ch).ownBlock → w2.cell? ⟨g, p * 8 + 7, none⟩ = some (.slice ph q.e.ch.length ch) ∧ w2.frozen? ⟨g, p * 8 + 7, none⟩ = false) := fun o w2 hg => by
        have := hTN.mid (o := o) hq (by rw [hv]; exact hg)
        rwa [hv] at this
      have H1 : ∀ u ∈ ([.int .i64 (qs.length : Int)] : List Value), u.oneCell' = true := fun u hu => by simp at hu; subst hu; rfl
      have m1 : q.e.ch.length + 1 ≤ maxLen := by unfold maxLen; omega
      have m2 : (q.e.ch.length + 1) * 8 ≤ 140737488355328 := by omega
      have HIA : Hid (∀ o : Obj, (W1.alloc o).ownsRow b 3 1 (.slice ph q.e.ch.length ch) q.e.ch.length ((chI q.e.ch).map (Value.int .i64))) := fun o => hI.alloc o
      have hbW : b ≤ W1.heap.size := by omega
      have HSZ : Hid (∀ o : Obj, b ≤ (W1.alloc o).heap.size) := fun o => by rw [World.size_alloc]; omega
      have HTN : Hid (Tr b W1 tb g cap qs) := hTN
      have HKN : Hid (Blk W1 w.heap.size 28 _) := kN
      clear hI
      go_upto_region 13 with (at_builtin; refine wpList_append_own_at _ rfl _ _ 48 rfl b 3 j0 (.int .i64 0) 1 8 Try.underlying48 hj hx0 hx1 hx2 rfl (by decide) (.slice ph q.e.ch.length ch) _ _ rfl (HIA.out _) ⟨W1.heap.size, 0, none⟩ 1 1 [.int .i64 (qs.length : Int)] rfl rfl (cells_plain _ [_] _) H1 m1 m2 (HSZ.out _) ?_; intro v' w2 hown' hgrow hnil hloc; obtain ⟨g', c', rfl⟩ := shape_of hown'; obtain ⟨m7, m8⟩ := HM.out _ w2 hgrow)
      have hT3 := HTN.out.grow hq hown' (by rw [hv]; exact hgrow) (by rw [hv]; exact hloc)
      have k3 := HTN.out.off (v' := .slice (some ⟨g', 0, none⟩) (q.e.ch.length + 1) c') hq (by rw [hv]; exact hgrow) HKN.out
      have b3 : Below b W1 (w2.setCell ⟨g, p * 8 + 7, none⟩ (.slice (some ⟨g', 0, none⟩) (q.e.ch.length + 1) c')) := by
        have h1 := ((Below.refl b W1).alloc hbW (.cells #[.int .i64 (qs.length : Int)] 3)).grown hgrow (HSZ.out _) (fun r e => (owns_lt (HIA.out (.cells #[.int .i64 (qs.length : Int)] 3)) e).1)
        exact below_grown h1 (grown_set _ _ _ _) (by have := h1.size; omega) HTN.out.glt.1
      have hc3 := hcN.below b3
      have ha3 := haN.below b3
      have b03 := bN.trans b3
      have hs3 : w.heap.size < (w2.setCell ⟨g, p * 8 + 7, none⟩ (.slice (some ⟨g', 0, none⟩) (q.e.ch.length + 1) c')).heap.size := by have := b3.size; omega
      clear hcN haN bN b3 hgrow hnil hloc hown' HM HIA HSZ HTN HKN hTN kN hv x0 x5 x6 x7 f7 m7 m8 hltN
      have hls : (qs.set p { q with e := { q.e with ch := q.e.ch ++ [qs.length] }, hv := .slice (some ⟨g', 0, none⟩) (q.e.ch.length + 1) c' }).length = qs.length := List.length_set
      have hmap : (qs.set p { q with e := { q.e with ch := q.e.ch ++ [qs.length] }, hv := .slice (some ⟨g', 0, none⟩) (q.e.ch.length + 1) c' }).map Em.e = growV (qs.map Em.e) p q.e qs.length := by rw [List.map_set]; rfl
      have hq3 : (qs.set p { q with e := { q.e with ch := q.e.ch ++ [qs.length] }, hv := .slice (some ⟨g', 0, none⟩) (q.e.ch.length + 1) c' })[p]? = some { q with e := { q.e with ch := q.e.ch ++ [qs.length] }, hv := .slice (some ⟨g', 0, none⟩) (q.e.ch.length + 1) c' } := by rw [List.getElem?_set_self hplt]
      generalize w2.setCell ⟨g, p * 8 + 7, none⟩ (.slice (some ⟨g', 0, none⟩) (q.e.ch.length + 1) c') = W3 at *
      generalize qs.set p { q with e := { q.e with ch := q.e.ch ++ [qs.length] }, hv := .slice (some ⟨g', 0, none⟩) (q.e.ch.length + 1) c' } = rs at *
      have HQ3 : Hid (_ = _) := hq3
      have HMap : Hid (_ = _) := hmap
      have HLS : Hid (_ = _) := hls
      have HT : Hid (Tr b W3 tb g cap rs) := hT3
      have HKN : Hid (Blk W3 w.heap.size 28 _) := k3
      have HB : Hid (Below b w W3) := b03
      have HS : Hid (∀ X : World, Below W3.heap.size W3 X → X.cell? ⟨tb, 0, none⟩ = some (.slice (some ⟨g, 0, none⟩) qs.length cap) ∧ X.cell? ⟨w.heap.size, 0, none⟩ = some (.int .i64 (p : Int)) ∧ X.cell? ⟨w.heap.size, 1, none⟩ = some (.string tag) ∧ X.cell? ⟨w.heap.size, 2, none⟩ = some (.string id) ∧ X.cell? ⟨w.heap.size, 3, none⟩ = some (.slice pc cls.length cc) ∧ X.cell? ⟨w.heap.size, 4, none⟩ = some (.slice pa ats.length ca) ∧ X.cell? ⟨g, p * 8 + 5, none⟩ = some (.int .i64 q.e.depth) ∧ X.cell? ⟨g, p * 8 + 7, none⟩ = some (.slice (some ⟨g', 0, none⟩) (q.e.ch.length + 1) c')) := fun X hX => by
        obtain ⟨⟨e0, e1, e2, e3, e4⟩, _⟩ := blk5 (HKN.out.next hX)
        have hTX := HT.out.next hX
        obtain ⟨_, _, _, _, _, y5, _, y7⟩ := hTX.get8 HQ3.out
        have y0 := (blk1 hTX.blk).1
        rw [HLS.out] at y0
        exact ⟨y0, e0, e1, e2, e3, e4, y5, y7⟩
      have HK : Hid (Calls Try.prog 33 #[ndVal ⟨(p : Int), tag, id, cls, ats⟩ (.slice pc cls.length cc) (.slice pa ats.length ca)] W3.drew _) := kept_any ⟨(p : Int), tag, id, cls, ats⟩ (.slice pc cls.length cc) (.slice pa ats.length ca) W3.drew ((hc3.mono (by omega : b ≤ W3.heap.size)).next (below_drew (Below.refl _ _))) ((ha3.mono (by omega : b ≤ W3.heap.size)).next (below_drew (Below.refl _ _))) HN.out
      unfold ndVal at HK
      have hbW3 : b ≤ W3.heap.size := by omega
      have hwd : IntKind.i64.wrap ((q.e.depth : Int) + 1) = (q.e.depth : Int) + 1 := by rw [IntKind.wrap_i64]; omega
      clear hq3 hmap hls hT3 k3 b03 hc3 ha3 HN HCH hml hq
      refine Rg.wpD_begin [1, 2, 3, 4, 5, 6, 7, 8, 9, 10, 11, 12, 13, 14, 15, 16, 17, 18] (fun X => X.cell? ⟨tb, 0, none⟩ = some (.slice (some ⟨g, 0, none⟩) qs.length cap) ∧ X.cell? ⟨w.heap.size, 0, none⟩ = some (.int .i64 (p : Int)) ∧ X.cell? ⟨w.heap.size, 1, none⟩ = some (.string tag) ∧ X.cell? ⟨w.heap.size, 2, none⟩ = some (.string id) ∧ X.cell? ⟨w.heap.size, 3, none⟩ = some (.slice pc cls.length cc) ∧ X.cell? ⟨w.heap.size, 4, none⟩ = some (.slice pa ats.length ca) ∧ X.cell? ⟨g, p * 8 + 5, none⟩ = some (.int .i64 q.e.depth) ∧ X.cell? ⟨g, p * 8 + 7, none⟩ = some (.slice (some ⟨g', 0, none⟩) (q.e.ch.length + 1) c')) (by kernel_rfl) ?_
      have q0 : Below W3.heap.size W3 W3.drew := below_drew (Below.refl _ _)
      have HeldS := HS.out _ q0
      refine Rg.wpD_pure 0 (v := ?_) (by simp only [List.getElem?_toArray, List.getElem?_cons_zero]; rfl) (by kernel_rfl) (by kernel_rfl) (by intro _ _ _ h; exact h) (by rfl) (fun wz => ?_) ?_
      rotate_left
      · first | (go_simp; done) | (go_simp; with_reducible rfl)
      simp only [Act.put, List.setIfInBounds_toArray, List.set_cons_succ, List.set_cons_zero]
      refine Rg.wpD_load 1 (v := ?_) (by simp only [List.getElem?_toArray, List.getElem?_cons_succ, List.getElem?_cons_zero]; rfl) (by kernel_rfl) (by kernel_rfl) (by intro _ _ _ h; exact h) HeldS (by rfl) (fun wz hz => ?_) ?_
      rotate_left
      · first | (go_simp; done) | (go_simp; with_reducible rfl)
      simp only [Act.put, List.setIfInBounds_toArray, List.set_cons_succ, List.set_cons_zero]
      refine Rg.wpD_load 2 (v := ?_) (by simp only [List.getElem?_toArray, List.getElem?_cons_succ, List.getElem?_cons_zero]; rfl) (by kernel_rfl) (by kernel_rfl) (by intro _ _ _ h; exact h) HeldS (by rfl) (fun wz hz => ?_) ?_
      rotate_left
      · first | (go_simp; done) | (go_simp; with_reducible rfl)
      simp only [Act.put, List.setIfInBounds_toArray, List.set_cons_succ, List.set_cons_zero]
      refine Rg.wpD_load 3 (v := ?_) (by simp only [List.getElem?_toArray, List.getElem?_cons_succ, List.getElem?_cons_zero]; rfl) (by kernel_rfl) (by kernel_rfl) (by intro _ _ _ h; exact h) HeldS (by rfl) (fun wz hz => ?_) ?_
      rotate_left
      · first | (go_simp; done) | (go_simp; with_reducible rfl)
      simp only [Act.put, List.setIfInBounds_toArray, List.set_cons_succ, List.set_cons_zero]
      refine Rg.wpD_load 4 (v := ?_) (by simp only [List.getElem?_toArray, List.getElem?_cons_succ, List.getElem?_cons_zero]; rfl) (by kernel_rfl) (by kernel_rfl) (by intro _ _ _ h; exact h) HeldS (by rfl) (fun wz hz => ?_) ?_
      rotate_left
      · first | (go_simp; done) | (go_simp; with_reducible rfl)
      simp only [Act.put, List.setIfInBounds_toArray, List.set_cons_succ, List.set_cons_zero]
      refine Rg.wpD_load 5 (v := ?_) (by simp only [List.getElem?_toArray, List.getElem?_cons_succ, List.getElem?_cons_zero]; rfl) (by kernel_rfl) (by kernel_rfl) (by intro _ _ _ h; exact h) HeldS (by rfl) (fun wz hz => ?_) ?_
      rotate_left
      · first | (go_simp; done) | (go_simp; with_reducible rfl)
      simp only [Act.put, List.setIfInBounds_toArray, List.set_cons_succ, List.set_cons_zero]
      refine Rg.wpD_load 7 (v := ?_) (by simp only [List.getElem?_toArray, List.getElem?_cons_succ, List.getElem?_cons_zero]; rfl) (by kernel_rfl) (by kernel_rfl) (by intro _ _ _ h; exact h) HeldS (by rfl) (fun wz hz => ?_) ?_
      rotate_left
      · first | (go_simp; done) | (go_simp; with_reducible rfl)
      simp only [Act.put, List.setIfInBounds_toArray, List.set_cons_succ, List.set_cons_zero]
      refine Rg.wpD_load 8 (v := ?_) (by simp only [List.getElem?_toArray, List.getElem?_cons_succ, List.getElem?_cons_zero]; rfl) (by kernel_rfl) (by kernel_rfl) (by intro _ _ _ h; exact h) HeldS (by rfl) (fun wz hz => ?_) ?_
      rotate_left
      · first | (go_simp; done) | (go_simp; with_reducible rfl)
      simp only [Act.put, List.setIfInBounds_toArray, List.set_cons_succ, List.set_cons_zero]
      refine Rg.wpD_load 9 (v := ?_) (by simp only [List.getElem?_toArray, List.getElem?_cons_succ, List.getElem?_cons_zero]; rfl) (by kernel_rfl) (by kernel_rfl) (by intro _ _ _ h; exact h) HeldS (by rfl) (fun wz hz => ?_) ?_
      rotate_left
      · first | (go_simp; done) | (go_simp; with_reducible rfl)
      simp only [Act.put, List.setIfInBounds_toArray, List.set_cons_succ, List.set_cons_zero]
      refine Rg.wpD_load 10 (v := ?_) (by simp only [List.getElem?_toArray, List.getElem?_cons_succ, List.getElem?_cons_zero]; rfl) (by kernel_rfl) (by kernel_rfl) (by intro _ _ _ h; exact h) HeldS (by rfl) (fun wz hz => ?_) ?_
      rotate_left
      · first | (go_simp; done) | (go_simp; with_reducible rfl)
      simp only [Act.put, List.setIfInBounds_toArray, List.set_cons_succ, List.set_cons_zero]
      refine Rg.wpD_load 11 (v := ?_) (by simp only [List.getElem?_toArray, List.getElem?_cons_succ, List.getElem?_cons_zero]; rfl) (by kernel_rfl) (by kernel_rfl) (by intro _ _ _ h; exact h) HeldS (by rfl) (fun wz hz => ?_) ?_
      rotate_left
      · first | (go_simp; done) | (go_simp; with_reducible rfl)
      simp only [Act.put, List.setIfInBounds_toArray, List.set_cons_succ, List.set_cons_zero]
      refine Rg.wpD_load 12 (v := ?_) (by simp only [List.getElem?_toArray, List.getElem?_cons_succ, List.getElem?_cons_zero]; rfl) (by kernel_rfl) (by kernel_rfl) (by intro _ _ _ h; exact h) HeldS (by rfl) (fun wz hz => ?_) ?_
      rotate_left
      · first | (go_simp; done) | (go_simp; with_reducible rfl)
      simp only [Act.put, List.setIfInBounds_toArray, List.set_cons_succ, List.set_cons_zero]
      refine Rg.wpD_load 13 (v := ?_) (by simp only [List.getElem?_toArray, List.getElem?_cons_succ, List.getElem?_cons_zero]; rfl) (by kernel_rfl) (by kernel_rfl) (by intro _ _ _ h; exact h) HeldS (by rfl) (fun wz hz => ?_) ?_
      rotate_left
      · first | (go_simp; done) | (go_simp; with_reducible rfl)
      simp only [Act.put, List.setIfInBounds_toArray, List.set_cons_succ, List.set_cons_zero]
      refine Rg.wpD_load 14 (v := ?_) (by simp only [List.getElem?_toArray, List.getElem?_cons_succ, List.getElem?_cons_zero]; rfl) (by kernel_rfl) (by kernel_rfl) (by intro _ _ _ h; exact h) HeldS (by rfl) (fun wz hz => ?_) ?_
      rotate_left
      · first | (go_simp; done) | (go_simp; with_reducible rfl)
      simp only [Act.put, List.setIfInBounds_toArray, List.set_cons_succ, List.set_cons_zero]
      refine Rg.wpD_load 15 (v := ?_) (by simp only [List.getElem?_toArray, List.getElem?_cons_succ, List.getElem?_cons_zero]; rfl) (by kernel_rfl) (by kernel_rfl) (by intro _ _ _ h; exact h) HeldS (by rfl) (fun wz hz => ?_) ?_
      rotate_left
      · first | (go_simp; done) | (go_simp; with_reducible rfl)
      simp only [Act.put, List.setIfInBounds_toArray, List.set_cons_succ, List.set_cons_zero]
      refine Rg.wpD_load 16 (v := ?_) (by simp only [List.getElem?_toArray, List.getElem?_cons_succ, List.getElem?_cons_zero]; rfl) (by kernel_rfl) (by kernel_rfl) (by intro _ _ _ h; exact h) HeldS (by rfl) (fun wz hz => ?_) ?_
      rotate_left
      · first | (go_simp; done) | (go_simp; with_reducible rfl)
      simp only [Act.put, List.setIfInBounds_toArray, List.set_cons_succ, List.set_cons_zero]
      refine Rg.wpD_do 6 (by kernel_rfl) (by simp only [List.getElem?_toArray, List.getElem?_cons_succ, List.getElem?_cons_zero]; rfl) (fun K hK => ?_)
      go_simp
      go_at_call 33
      refine Calls.mono HK.out ?_
      rintro e wK ⟨cv', av', rfl, hcK, haK, bK⟩
      have qK : Below W3.heap.size W3 wK := below_next q0 bK
      refine hK _ _ (fun _ => HS.out _ qK) ?_
      clear HeldS hK K bK
      have HeldS := HS.out _ qK
      simp only [lowN]
      refine Rg.wpD_load 17 (v := ?_) (by simp only [List.getElem?_toArray, List.getElem?_cons_succ, List.getElem?_cons_zero]; rfl) (by kernel_rfl) (by kernel_rfl) (by intro _ _ _ h; exact h) HeldS (by rfl) (fun wz hz => ?_) ?_
      rotate_left
      · first | (go_simp; done) | (go_simp; with_reducible rfl)
      simp only [Act.put, List.setIfInBounds_toArray, List.set_cons_succ, List.set_cons_zero]
      refine Rg.wpD_do 18 (by kernel_rfl) (by simp only [List.getElem?_toArray, List.getElem?_cons_succ, List.getElem?_cons_zero]; rfl) (fun K hK => ?_)
      go_simp
      have qL : Below W3.heap.size W3 (wK.alloc (.cells #[.int .i64 (p : Int), .string (lowS tag), .string id, cv', av', .int .i64 ((q.e.depth : Int) + 1), .int .i64 ((q.e.ch.length : Int) + 1), .slice none 0 0] 87)) := qK.alloc qK.size _
      have hnew := cells_plain wK [.int .i64 (p : Int), .string (lowS tag), .string id, cv', av', .int .i64 ((q.e.depth : Int) + 1), .int .i64 ((q.e.ch.length : Int) + 1), .slice none 0 0] 87
      refine hK _ _ (fun _ => HS.out _ qL) ?_
      clear HeldS hK K
      have HTK := HT.out.next qL
      have hrow := HTK.row
      rw [HLS.out] at hrow
      have H2 : ∀ u ∈ ([.int .i64 (p : Int), .string (lowS tag), .string id, cv', av', .int .i64 ((q.e.depth : Int) + 1), .int .i64 ((q.e.ch.length : Int) + 1), .slice none 0 0] : List Value), u.oneCell' = true := emOne hcK haK
      refine Rg.wpD_do 19 (by kernel_rfl) (by simp only [List.getElem?_toArray, List.getElem?_cons_succ, List.getElem?_cons_zero]; rfl) (fun K hK => ?_)
      refine Rg.step_append_fits rfl _ _ 68 rfl b 87 i0 8 Try.underlying68 hi hz1 g qs.length cap _ rfl hrow ⟨wK.heap.size, 0, none⟩ 1 1 [.int .i64 (p : Int), .string (lowS tag), .string id, cv', av', .int .i64 ((q.e.depth : Int) + 1), .int .i64 ((q.e.ch.length : Int) + 1), .slice none 0 0] rfl rfl hnew H2 (by omega) ?_
      intro w7 hown7 hgrow7
      refine hK _ _ (fun h => absurd h (by decide)) ?_
      clear hK K hnew H2
      have hcL := hcK.next ((Below.refl _ wK).alloc (Nat.le_refl _) (.cells #[.int .i64 (p : Int), .string (lowS tag), .string id, cv', av', .int .i64 ((q.e.depth : Int) + 1), .int .i64 ((q.e.ch.length : Int) + 1), .slice none 0 0] 87))
      have haL := haK.next ((Below.refl _ wK).alloc (Nat.le_refl _) (.cells #[.int .i64 (p : Int), .string (lowS tag), .string id, cv', av', .int .i64 ((q.e.depth : Int) + 1), .int .i64 ((q.e.ch.length : Int) + 1), .slice none 0 0] 87))
      have hTz := HT.out.push (w2 := w7) (q := ⟨⟨lowN ⟨(p : Int), tag, id, cls, ats⟩, q.e.depth + 1, q.e.ch.length + 1, []⟩, cv', av', .slice none 0 0⟩) qL rfl rfl hcL haL (by rw [HLS.out]; exact hown7) hgrow7
      rw [HLS.out] at hTz
      have b7 := (HB.out.trans (qL.mono hbW3)).grown hgrow7 (by have := qL.size; omega) (fun r e => by cases e; exact HT.out.glt.1)
      have bz := below_grown b7 (grown_set w7 tb 0 (.slice (some ⟨g, 0, none⟩) (qs.length + 1) cap)) (Nat.le_trans hb0 b7.size) HT.out.low
      have k7 := HTK.blk.kept hgrow7 (fun e => row_blk (e := 87) (t := 70) (by decide) HTK.row HTK.blk e.symm)
      obtain ⟨d7, f7⟩ := blk1 k7
      clear HTK qL qK hcL haL hcK haK b7 k7 hrow
      refine Rg.wpD_pure 20 (v := ?_) (by simp only [List.getElem?_toArray, List.getElem?_cons_succ, List.getElem?_cons_zero]; rfl) (by kernel_rfl) (by kernel_rfl) (by intro _ _ _ h; exact h) (by rfl) (fun wz => ?_) ?_
      rotate_left
      · first | (go_simp; done) | (go_simp; with_reducible rfl)
      simp only [Act.put, List.setIfInBounds_toArray, List.set_cons_succ, List.set_cons_zero]
      refine Rg.wpD_pure 21 (v := ?_) (by simp only [List.getElem?_toArray, List.getElem?_cons_succ, List.getElem?_cons_zero]; rfl) (by kernel_rfl) (by kernel_rfl) (by intro _ _ _ h; exact h) (by rfl) (fun wz => ?_) ?_
      rotate_left
      · first | (go_simp; done) | (go_simp; with_reducible rfl)
      simp only [Act.put, List.setIfInBounds_toArray, List.set_cons_succ, List.set_cons_zero]
      refine Rg.wpD_do 22 (by kernel_rfl) (by simp only [List.getElem?_toArray, List.getElem?_cons_succ, List.getElem?_cons_zero]; rfl) (fun K hK => ?_)
      go_simp
      refine hK _ _ (fun h => absurd h (by decide)) ?_
      clear hK K
      refine Rg.wpD_done (by kernel_rfl) ?_
      go_wp2
      go_ret
      refine ⟨.inl ⟨rs ++ [⟨⟨lowN ⟨(p : Int), tag, id, cls, ats⟩, q.e.depth + 1, q.e.ch.length + 1, []⟩, cv', av', .slice none 0 0⟩], ?_, rfl, hTz⟩, bz⟩
      rw [HAdd3.out, List.map_append, HMap.out]
      rfl
  · rw [decide_eq_false hin] at hh
    have hadd : addV (qs.map Em.e) n = .error 10 := by
      unfold addV
      rw [if_neg hn0, if_neg (by rw [hml]; exact hin)]
    have HAdd : Hid (_ = _) := hadd
    obtain ⟨parent, tag, id, cls, ats⟩ := n
    simp only at a0 hh
    clear hadd hin
    go_wp2_with fail
    refine hh.mono ?_
    clear hh
    rintro e w' ⟨rfl, rfl⟩
    go_wp2
    go_ret
    exact ⟨.inr ⟨10, HAdd.out, rfl⟩, bbA⟩

end Go.Proofs.Ytgjfapdnobhkcab.Dm
