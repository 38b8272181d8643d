/- package dom: Children, Node, sibling, Before. -/
import Derived.Test.YtgjfapdnobhkcabDmClone
namespace Go.Proofs.Ytgjfapdnobhkcab.Dm
open Go Go.RowKit

theorem mono_base {b b' : Nat} {W : World} {v : Value} {l : List Int} (h : IntRow b W v l) (hb : b' ≤ b) : IntRow b' W v l := owns_base h hb

set_option maxRecDepth 100000 in
set_option maxHeartbeats 1000000 in
theorem children_any (b tb g cap : Nat) (qs : List Em) (e : Int) (w : World) (hT : Tr b w tb g cap qs) (hO : TreeOk (qs.map Em.e)) (hl : qs.length ≤ 4096) :
    Calls Try.prog 84 #[.pointer (some ⟨tb, 0, none⟩), .int .i64 e] w fun x w' => ∃ v', x = .returned v' ∧ IntRow w.heap.size w' v' (chI (childrenV (qs.map Em.e) e)) ∧ Below w.heap.size w w' := by
  have hh := has_any b tb g cap qs e w hT
  have c0 := (blk1 hT.blk).1
  by_cases hin : 0 ≤ e ∧ e < (qs.length : Int)
  · rw [decide_eq_true hin] at hh
    obtain ⟨k, rfl⟩ : ∃ k : Nat, e = (k : Int) := ⟨e.toNat, by omega⟩
    have hk : k < qs.length := by omega
    obtain ⟨q, hq⟩ : ∃ q, qs[k]? = some q := ⟨_, List.getElem?_eq_getElem hk⟩
    have hV : childrenV (qs.map Em.e) (k : Int) = q.e.ch := by unfold childrenV; rw [elAt_yes (map_at hq)]; rfl
    rw [hV]
    obtain ⟨_, _, _, _, _, _, _, x7⟩ := hT.get8 hq
    have hfew := hO.few k q.e (map_at hq)
    rw [List.length_map] at hfew
    have hc := cloneInt_any q.hv (chI q.e.ch) b w (hT.chs k q hq) (by rw [chI_len]; omega)
    have hI := hT.chs k q hq
    have hr := hT.room
    unfold maxLen at hr
    have hki : (k : Int) < (qs.length : Int) := by omega
    obtain ⟨ph, ch, hv⟩ := owns_form hI
    rw [hv] at x7 hc
    clear hT hV hq hin hI hv hO
    go_enter Try.func84, Try.ntmps84
    go_wp2_with fail
    refine hh.mono ?_
    clear hh
    rintro x w' ⟨rfl, rfl⟩
    go_wp2_with fail
    refine hc.mono ?_
    clear hc
    rintro x w2 ⟨v', rfl, hv', b2⟩
    go_wp2
    go_ret
    exact ⟨v', rfl, hv', b2⟩
  · rw [decide_eq_false hin] at hh
    have hV : childrenV (qs.map Em.e) e = [] := by unfold childrenV; rw [elAt_no (fun h => hin ((dec_map qs e).2 h))]; rfl
    rw [hV]
    clear hT hV hin hO
    go_enter Try.func84, Try.ntmps84
    go_wp2_with fail
    refine hh.mono ?_
    clear hh
    rintro x w' ⟨rfl, rfl⟩
    go_wp2
    go_ret
    exact ⟨_, rfl, World.ownsRow_nil _ _ _ _, Below.refl _ _⟩

def nthI (l : List Nat) (i : Int) : Int := if 0 ≤ i ∧ i < (l.length : Int) then ((l.getD i.toNat 0 : Nat) : Int) else -1
theorem nthI_yes {l : List Nat} {i c : Nat} (h : l[i]? = some c) : nthI l (i : Int) = (c : Int) := by
  have hi : i < l.length := (List.getElem?_eq_some_iff.1 h).1
  unfold nthI
  rw [if_pos ⟨by omega, by omega⟩, Int.toNat_natCast]
  simp [List.getD, h]
theorem nthI_no {l : List Nat} {i : Int} (h : ¬ (0 ≤ i ∧ i < (l.length : Int))) : nthI l i = -1 := by unfold nthI; rw [if_neg h]
/-- The child of the parent that stands so many places behind. -/
def sibV (es : List El) (k : Nat) (d : Int) : Int := if (es.getD k zeroEl).nd.parent = -1 then -1 else nthI (childrenV es (es.getD k zeroEl).nd.parent) (((es.getD k zeroEl).place : Int) - 1 + d)
theorem sibV_at {es : List El} {k : Nat} {q : El} (h : es[k]? = some q) (d : Int) : sibV es k d = if q.nd.parent = -1 then -1 else nthI (childrenV es q.nd.parent) ((q.place : Int) - 1 + d) := by
  unfold sibV
  rw [show es.getD k zeroEl = q by simp [List.getD, h]]

set_option maxRecDepth 100000 in
set_option maxHeartbeats 2000000 in
theorem sibling_any (b tb g cap : Nat) (qs : List Em) (k : Nat) (d : Int) (w : World) (hT : Tr b w tb g cap qs) (hO : TreeOk (qs.map Em.e)) (_hl : qs.length ≤ 4096) (hk : k < qs.length) (hd : d = 1 ∨ d = -1) :
    Calls Try.prog 98 #[.pointer (some ⟨tb, 0, none⟩), .int .i64 k, .int .i64 d] w fun x w' => x = .returned (.int .i64 (sibV (qs.map Em.e) k d)) ∧ w' = w := by
  have c0 := (blk1 hT.blk).1
  obtain ⟨q, hq⟩ : ∃ q, qs[k]? = some q := ⟨_, List.getElem?_eq_getElem hk⟩
  obtain ⟨x0, _, _, _, _, x5, x6, x7⟩ := hT.get8 hq
  have hr := hT.room
  unfold maxLen at hr
  have hki : (k : Int) < (qs.length : Int) := by omega
  rw [sibV_at (map_at hq)]
  by_cases hk0 : k = 0
  · subst hk0
    have hroot := (hO.root q.e (map_at hq)).1
    rw [hroot, if_pos rfl]
    rw [hroot] at x0
    clear hT hO hq x5 x6 x7 hroot
    simp only [Nat.zero_mul] at x0
    go_enter Try.func98, Try.ntmps98
    go_wp2
    go_ret
    exact ⟨rfl, rfl⟩
  · obtain ⟨p, r', hp, hpk, hr', _, hpl, hpc⟩ := hO.par k q.e (map_at hq) (by omega)
    have hplt : p < qs.length := by omega
    obtain ⟨r, hrq⟩ : ∃ r, qs[p]? = some r := ⟨_, List.getElem?_eq_getElem hplt⟩
    obtain rfl : r.e = r' := by rw [map_at hrq] at hr'; exact Option.some.inj hr'
    have hcV : childrenV (qs.map Em.e) q.e.nd.parent = r.e.ch := by unfold childrenV; rw [hp, elAt_yes (map_at hrq)]; rfl
    rw [hcV, hp, if_neg (by omega)]
    have hfew := hO.few p r.e (map_at hrq)
    rw [List.length_map] at hfew
    obtain ⟨_, _, _, _, _, _, _, z7⟩ := hT.get8 hrq
    have hI := hT.chs p r hrq
    have hat := hI.at
    unfold IntRow at hI
    rw [chI_len] at hI
    obtain ⟨ph, ch, hv⟩ := owns_form hI
    rw [hv] at z7 hat
    rw [hp] at x0
    have hpi : (p : Int) < (qs.length : Int) := by omega
    have hpn : ((p : Int) == -1) = false := by simp
    have hplace : q.e.place - 1 < r.e.ch.length := (List.getElem?_eq_some_iff.1 hpc).1
    generalize q.e.place = pl at *
    have hw1 : IntKind.i64.wrap ((pl : Int) - 1) = (pl : Int) - 1 := by rw [IntKind.wrap_i64]; omega
    have hw2 : IntKind.i64.wrap ((pl : Int) - 1 + d) = (pl : Int) - 1 + d := by rw [IntKind.wrap_i64]; omega
    clear hT hO hq hrq hI hv hp hr' hpc hcV x5 x7
    by_cases hneg : (pl : Int) - 1 + d < 0
    · rw [nthI_no (by omega)]
      clear hat hfew hplace hd
      go_enter Try.func98, Try.ntmps98
      go_wp2
      go_ret
      exact ⟨rfl, rfl⟩
    · by_cases hbig : (pl : Int) - 1 + d < (r.e.ch.length : Int)
      · obtain ⟨i, hi⟩ : ∃ i : Nat, (pl : Int) - 1 + d = (i : Int) := ⟨((pl : Int) - 1 + d).toNat, by omega⟩
        have hil : i < r.e.ch.length := by omega
        have hci : r.e.ch[i]? = some r.e.ch[i] := List.getElem?_eq_getElem hil
        rw [hi, nthI_yes hci]
        obtain ⟨bk, off, rfl, _, hcap, hmx, hcell⟩ := hat.get (k := i) (t := (r.e.ch[i] : Int)) (by unfold chI; rw [List.getElem?_map, hci]; rfl)
        have y0 := hcell 0 _ rfl
        simp only [Nat.mul_one, Nat.add_zero] at y0
        have hw3 : IntKind.i64.wrap ((pl : Int) - 1 + d) = (i : Int) := by rw [hw2, hi]
        have hbi : (i : Int) < (r.e.ch.length : Int) := by omega
        rw [chI_len] at hcap
        unfold maxLen at hmx
        generalize r.e.ch[i] = c at *
        clear hcell hfew hplace hd hci hi hw2 hneg hbig
        go_enter Try.func98, Try.ntmps98
        go_wp2
        go_ret
        exact ⟨rfl, rfl⟩
      · rw [nthI_no (by omega)]
        have hge : (r.e.ch.length : Int) ≤ (pl : Int) - 1 + d := by omega
        have hn : decide ((pl : Int) - 1 + d < 0) = false := decide_eq_false hneg
        clear hat hfew hplace hd hbig
        go_enter Try.func98, Try.ntmps98
        go_wp2
        go_ret
        exact ⟨rfl, rfl⟩

/-- The child of its parent right ahead. -/
def beforeV (es : List El) (e : Int) : Int := if 0 ≤ e ∧ e < (es.length : Int) then sibV es e.toNat (-1) else -1

set_option maxRecDepth 100000 in
set_option maxHeartbeats 1000000 in
theorem before_any (b tb g cap : Nat) (qs : List Em) (e : Int) (w : World) (hT : Tr b w tb g cap qs) (hO : TreeOk (qs.map Em.e)) (hl : qs.length ≤ 4096) :
    Calls Try.prog 87 #[.pointer (some ⟨tb, 0, none⟩), .int .i64 e] w fun x w' => x = .returned (.int .i64 (beforeV (qs.map Em.e) e)) ∧ w' = w := by
  have hh := has_any b tb g cap qs e w hT
  unfold beforeV
  by_cases hin : 0 ≤ e ∧ e < (qs.length : Int)
  · rw [decide_eq_true hin] at hh
    rw [if_pos ((dec_map qs e).1 hin)]
    obtain ⟨k, rfl⟩ : ∃ k : Nat, e = (k : Int) := ⟨e.toNat, by omega⟩
    have hs := sibling_any b tb g cap qs k (-1) w hT hO hl (by omega) (.inr rfl)
    rw [Int.toNat_natCast]
    clear hT hO hin
    generalize sibV (qs.map Em.e) k (-1) = r at *
    go_enter Try.func87, Try.ntmps87
    go_wp2_with fail
    refine hh.mono ?_
    clear hh
    rintro x w' ⟨rfl, rfl⟩
    go_wp2_with fail
    refine hs.mono ?_
    clear hs
    rintro x w2 ⟨rfl, rfl⟩
    go_wp2
    go_ret
    exact ⟨rfl, rfl⟩
  · rw [decide_eq_false hin] at hh
    rw [if_neg (fun h => hin ((dec_map qs e).2 h))]
    clear hT hO hin
    go_enter Try.func87, Try.ntmps87
    go_wp2_with fail
    refine hh.mono ?_
    clear hh
    rintro x w' ⟨rfl, rfl⟩
    go_wp2
    go_ret
    exact ⟨rfl, rfl⟩

def nodeV (es : List El) (e : Int) : Nd := ((elAt es e).map fun q => q.nd).getD zeroNd
/-- What Node leaves. -/
def Noded (n : Nd) (w : World) (x : Ending) (w' : World) : Prop := ∃ cv av, x = .returned (ndVal n cv av) ∧ StrRow w.heap.size w' cv n.cls ∧ PairRow w.heap.size w' av n.ats ∧ Below w.heap.size w w'

set_option maxRecDepth 100000 in
set_option maxHeartbeats 2000000 in
theorem node_any (b tb g cap : Nat) (qs : List Em) (e : Int) (w : World) (hT : Tr b w tb g cap qs) (hN : ∀ q ∈ qs, NdOk q.e.nd) :
    Calls Try.prog 60 #[.pointer (some ⟨tb, 0, none⟩), .int .i64 e] w (Noded (nodeV (qs.map Em.e) e) w) := by
  have bZ : Below w.heap.size w (w.alloc (.cells #[.int .i64 0, .string ⟨#[]⟩, .string ⟨#[]⟩, .slice none 0 0, .slice none 0 0] 28)) := (Below.refl _ _).alloc (Nat.le_refl _) _
  have kZ : Blk (w.alloc (.cells #[.int .i64 0, .string ⟨#[]⟩, .string ⟨#[]⟩, .slice none 0 0, .slice none 0 0] 28)) w.heap.size 28 [.int .i64 0, .string ⟨#[]⟩, .string ⟨#[]⟩, .slice none 0 0, .slice none 0 0] := Blk.new w 28 [.int .i64 0, .string ⟨#[]⟩, .string ⟨#[]⟩, .slice none 0 0, .slice none 0 0]
  have hTZ := hT.next bZ
  have hh := has_any b tb g cap qs e _ hTZ
  unfold Noded ndVal
  by_cases hin : 0 ≤ e ∧ e < (qs.length : Int)
  · rw [decide_eq_true hin] at hh
    obtain ⟨k, rfl⟩ : ∃ k : Nat, e = (k : Int) := ⟨e.toNat, by omega⟩
    have hk : k < qs.length := by omega
    obtain ⟨q, hq⟩ : ∃ q, qs[k]? = some q := ⟨_, List.getElem?_eq_getElem hk⟩
    have hV : nodeV (qs.map Em.e) (k : Int) = q.e.nd := by unfold nodeV; rw [elAt_yes (map_at hq)]; rfl
    rw [hV]
    have hNq := hN q (List.mem_of_getElem? hq)
    clear hN hV hin hT
    go_enter Try.func60, Try.ntmps60
    go_upto_region 1 with fail
    generalize w.alloc (.cells #[.int .i64 0, .string ⟨#[]⟩, .string ⟨#[]⟩, .slice none 0 0, .slice none 0 0] 28) = W1 at *
    have hlt1 := kZ.lt
    go_wp2_with fail
    refine hh.mono ?_
    clear hh
    rintro x W' ⟨rfl, rfl⟩
    obtain ⟨c0, _⟩ := blk1 hTZ.blk
    obtain ⟨x0, x1, x2, x3, x4, _, _, _⟩ := hTZ.get8 hq
    have hr := hTZ.room
    unfold maxLen at hr
    have hki : (k : Int) < (qs.length : Int) := by omega
    have hcls := hTZ.cls k q hq
    have hats := hTZ.ats k q hq
    have hNc := hNq.ncls
    have hNa := hNq.nats
    clear hNq hTZ hq
    obtain ⟨⟨⟨parent, tag, id, cls, ats⟩, dp, pl, chl⟩, cv, av, hv⟩ := q
    simp only at x0 x1 x2 x3 x4 hcls hats hNc hNa
    obtain ⟨pc, cc, rfl⟩ := owns_form hcls
    obtain ⟨pa, ca, rfl⟩ := owns_form hats
    have bN : Below W'.heap.size W' (W'.alloc (.cells #[.int .i64 parent, .string tag, .string id, .slice pc cls.length cc, .slice pa ats.length ca] 28)) := (Below.refl _ _).alloc (Nat.le_refl _) _
    have kN : Blk (W'.alloc (.cells #[.int .i64 parent, .string tag, .string id, .slice pc cls.length cc, .slice pa ats.length ca] 28)) W'.heap.size 28 [.int .i64 parent, .string tag, .string id, .slice pc cls.length cc, .slice pa ats.length ca] := Blk.new W' 28 [.int .i64 parent, .string tag, .string id, .slice pc cls.length cc, .slice pa ats.length ca]
    have kZ2 := kZ.next bN
    have hc2 := hcls.next bN
    have ha2 := hats.next bN
    have b2 := below_next bZ bN
    have hs2 := bZ.size
    have hne : w.heap.size ≠ W'.heap.size := by omega
    go_upto_region 4 with fail
    generalize W'.alloc (.cells #[.int .i64 parent, .string tag, .string id, .slice pc cls.length cc, .slice pa ats.length ca] 28) = W2 at *
    generalize W'.heap.size = B at *
    clear x0 x1 x2 x3 x4 c0 hcls hats kZ bZ bN hr
    have HS : Hid (∀ X : World, Below W2.heap.size W2 X → X.cell? ⟨B, 3, none⟩ = some (.slice pc cls.length cc) ∧ X.cell? ⟨B, 4, none⟩ = some (.slice pa ats.length ca)) := fun X hX => by
      obtain ⟨⟨_, _, _, e3, e4⟩, _⟩ := blk5 (kN.next hX)
      exact ⟨e3, e4⟩
    refine Rg.wpD_begin [0, 1, 2, 3, 4, 5] (fun X => X.cell? ⟨B, 3, none⟩ = some (.slice pc cls.length cc) ∧ X.cell? ⟨B, 4, none⟩ = some (.slice pa ats.length ca)) (by kernel_rfl) ?_
    have q0 : Below W2.heap.size W2 W2.drew := below_drew (Below.refl _ _)
    have HC1 := cloneStr_any (.slice pc cls.length cc) cls b W2.drew (hc2.next q0) hNc
    have HeldS := HS.out _ q0
    refine Rg.wpD_load 0 (v := ?_) (by simp only [List.getElem?_toArray, List.getElem?_cons_zero]; rfl) (by kernel_rfl) (by kernel_rfl) (by intro _ _ _ h; exact h) HeldS (by rfl) (fun wz hz => ?_) ?_
    rotate_left
    · first | (go_simp; done) | (go_simp; with_reducible rfl)
    simp only [Act.put, List.setIfInBounds_toArray, List.set_cons_succ, List.set_cons_zero]
    refine Rg.wpD_load 1 (v := ?_) (by simp only [List.getElem?_toArray, List.getElem?_cons_succ, List.getElem?_cons_zero]; rfl) (by kernel_rfl) (by kernel_rfl) (by intro _ _ _ h; exact h) HeldS (by rfl) (fun wz hz => ?_) ?_
    rotate_left
    · first | (go_simp; done) | (go_simp; with_reducible rfl)
    simp only [Act.put, List.setIfInBounds_toArray, List.set_cons_succ, List.set_cons_zero]
    refine Rg.wpD_load 3 (v := ?_) (by simp only [List.getElem?_toArray, List.getElem?_cons_succ, List.getElem?_cons_zero]; rfl) (by kernel_rfl) (by kernel_rfl) (by intro _ _ _ h; exact h) HeldS (by rfl) (fun wz hz => ?_) ?_
    rotate_left
    · first | (go_simp; done) | (go_simp; with_reducible rfl)
    simp only [Act.put, List.setIfInBounds_toArray, List.set_cons_succ, List.set_cons_zero]
    refine Rg.wpD_load 4 (v := ?_) (by simp only [List.getElem?_toArray, List.getElem?_cons_succ, List.getElem?_cons_zero]; rfl) (by kernel_rfl) (by kernel_rfl) (by intro _ _ _ h; exact h) HeldS (by rfl) (fun wz hz => ?_) ?_
    rotate_left
    · first | (go_simp; done) | (go_simp; with_reducible rfl)
    simp only [Act.put, List.setIfInBounds_toArray, List.set_cons_succ, List.set_cons_zero]
    refine Rg.wpD_do 2 (by kernel_rfl) (by simp only [List.getElem?_toArray, List.getElem?_cons_succ, List.getElem?_cons_zero]; rfl) (fun K hK => ?_)
    go_simp
    go_at_call 67
    refine Calls.mono HC1 ?_
    clear HC1
    rintro x wN ⟨cv', rfl, hcN, bN⟩
    have qN : Below W2.heap.size W2 wN := below_next q0 bN
    refine hK _ _ (fun _ => HS.out _ qN) ?_
    clear hK K
    refine Rg.wpD_pure 6 (v := ?_) (by simp only [List.getElem?_toArray, List.getElem?_cons_succ, List.getElem?_cons_zero]; rfl) (by kernel_rfl) (by kernel_rfl) (by intro _ _ _ h; exact h) (by rfl) (fun wz => ?_) ?_
    rotate_left
    · first | (go_simp; done) | (go_simp; with_reducible rfl)
    simp only [Act.put, List.setIfInBounds_toArray, List.set_cons_succ, List.set_cons_zero]
    have HC2 := clonePair_any (.slice pa ats.length ca) ats b wN (ha2.next qN) hNa
    refine Rg.wpD_do 5 (by kernel_rfl) (by simp only [List.getElem?_toArray, List.getElem?_cons_succ, List.getElem?_cons_zero]; rfl) (fun K hK => ?_)
    go_simp
    go_at_call 68
    refine Calls.mono HC2 ?_
    clear HC2
    rintro x wM ⟨av', rfl, haM, bM⟩
    have qM : Below W2.heap.size W2 wM := below_next qN bM
    refine hK _ _ (fun _ => HS.out _ qM) ?_
    clear hK K HeldS
    have hcM := hcN.next bM
    have kM := kN.next qM
    have kZM := kZ2.next qM
    have bbM := below_next b2 qM
    obtain ⟨pc', cc', rfl⟩ := owns_form hcM
    obtain ⟨pa', ca', rfl⟩ := owns_form haM
    have k3 := blk_put kM 3 (.slice pc' cls.length cc')
    have k4 := blk_put k3 4 (.slice pa' ats.length ca')
    simp only [List.set_cons_succ, List.set_cons_zero] at k3 k4
    obtain ⟨⟨m0, m1, m2, m3, m4⟩, n0, n1, n2, n3, n4⟩ := blk5 kM
    obtain ⟨⟨o0, o1, o2, o3, o4⟩, r0, r1, r2, r3, r4⟩ := blk5 k3
    refine Rg.wpD_do 7 (by kernel_rfl) (by simp only [List.getElem?_toArray, List.getElem?_cons_succ, List.getElem?_cons_zero]; rfl) (fun K hK => ?_)
    go_simp
    refine hK _ _ (fun h => absurd h (by decide)) ?_
    clear hK K
    refine Rg.wpD_pure 8 (v := ?_) (by simp only [List.getElem?_toArray, List.getElem?_cons_succ, List.getElem?_cons_zero]; rfl) (by kernel_rfl) (by kernel_rfl) (by intro _ _ _ h; exact h) (by rfl) (fun wz => ?_) ?_
    rotate_left
    · first | (go_simp; done) | (go_simp; with_reducible rfl)
    simp only [Act.put, List.setIfInBounds_toArray, List.set_cons_succ, List.set_cons_zero]
    refine Rg.wpD_do 9 (by kernel_rfl) (by simp only [List.getElem?_toArray, List.getElem?_cons_succ, List.getElem?_cons_zero]; rfl) (fun K hK => ?_)
    go_simp
    refine hK _ _ (fun h => absurd h (by decide)) ?_
    clear hK K
    refine Rg.wpD_done (by kernel_rfl) ?_
    have g34 : wM.grownBy ((wM.setCell ⟨B, 3, none⟩ (.slice pc' cls.length cc')).setCell ⟨B, 4, none⟩ (.slice pa' ats.length ca')) (some B) := (grown_set _ _ _ _).trans (grown_set _ _ _ _)
    have hcX := hcM.kept g34 (.inr (row_blk (e := 9) (t := 28) (by decide) hcM kM))
    have haX := haM.kept g34 (.inr (row_blk (e := 24) (t := 28) (by decide) haM kM))
    have kZX := kZM.kept g34 (fun e => hne (by simpa using e))
    have bX := below_grown bbM g34 bbM.size (by omega)
    generalize (wM.setCell ⟨B, 3, none⟩ (.slice pc' cls.length cc')).setCell ⟨B, 4, none⟩ (.slice pa' ats.length ca') = WX at *
    clear m0 m1 m2 m3 m4 n0 n1 n2 n3 n4 o0 o1 o2 o3 o4 r0 r1 r2 r3 r4 kM k3 kZM hcM haM bbM
    obtain ⟨⟨y0, y1, y2, y3, y4⟩, _⟩ := blk5 k4
    obtain ⟨⟨t0, t1, t2, t3, t4⟩, f0, f1, f2, f3, f4⟩ := blk5 kZX
    have kW := blk_set5 kZX (.int .i64 parent) (.string tag) (.string id) (.slice pc' cls.length cc') (.slice pa' ats.length ca')
    have gW := grown_set5 WX w.heap.size (.int .i64 parent) (.string tag) (.string id) (.slice pc' cls.length cc') (.slice pa' ats.length ca')
    have hR9 := owns_base (b' := w.heap.size) (hcX.kept gW (.inr (row_blk (e := 9) (t := 28) (by decide) hcX kZX))) (by have h0 : W2.drew.heap.size = W2.heap.size := rfl; have h2 := b2.size; omega)
    have hP9 := owns_base (b' := w.heap.size) (haX.kept gW (.inr (row_blk (e := 24) (t := 28) (by decide) haX kZX))) (by have h1 := qM.size; have h2 := b2.size; have h3 := qN.size; omega)
    have b9 := below_grown bX gW bX.size (Nat.le_refl _)
    unfold set5 at kW hR9 hP9 b9
    clear gW kZX hcX haX k4
    go_wp2
    refine bodyPost_ret (results_struct rfl _ _ _ _ rfl (load_node kW)) rfl ?_
    exact ⟨_, _, rfl, hR9, hP9, b9⟩
  · rw [decide_eq_false hin] at hh
    have hV : nodeV (qs.map Em.e) e = zeroNd := by unfold nodeV; rw [elAt_no (fun h => hin ((dec_map qs e).2 h))]; rfl
    rw [hV]
    unfold zeroNd
    clear hV hin hN hT hTZ
    go_enter Try.func60, Try.ntmps60
    go_upto_region 1 with fail
    generalize w.alloc (.cells #[.int .i64 0, .string ⟨#[]⟩, .string ⟨#[]⟩, .slice none 0 0, .slice none 0 0] 28) = W1 at *
    go_wp2_with fail
    refine hh.mono ?_
    clear hh
    rintro x W' ⟨rfl, rfl⟩
    have kW := blk_set5 kZ (.int .i64 0) (.string ⟨#[]⟩) (.string ⟨#[]⟩) (.slice none 0 0) (.slice none 0 0)
    have gW := grown_set5 W' w.heap.size (.int .i64 0) (.string ⟨#[]⟩) (.string ⟨#[]⟩) (.slice none 0 0) (.slice none 0 0)
    have b9 := below_grown bZ gW bZ.size (Nat.le_refl _)
    obtain ⟨⟨t0, t1, t2, t3, t4⟩, f0, f1, f2, f3, f4⟩ := blk5 kZ
    unfold set5 at kW b9
    clear gW
    go_wp2
    refine bodyPost_ret (results_struct rfl _ _ _ _ rfl (load_node kW)) rfl ?_
    exact ⟨_, _, rfl, World.ownsRow_nil _ _ _ _, World.ownsRow_nil _ _ _ _, b9⟩

end Go.Proofs.Ytgjfapdnobhkcab.Dm
