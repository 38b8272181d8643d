/- For all nodes and selectors (trees, no rings) of bulk at most 1048576: the law tapestrierlaw13.BloomDenies returns true and leaves its arguments as they were (the second form). -/
import Derived.Test.YtiaikkbmgnaikaaBdFact
import Derived.Test.YtiaikkbmgnaikaaBhGa
import Derived.Test.YtiaikkbmgnaikaaBlMay
import Derived.Test.YtiaikkbmgnaikaaDear
import Derived.Test.YtiaikkbmgnaikaaDmArgs
import Derived.JoinedCond
import Derived.Deep.CondSized
namespace Go.Proofs.Ytiaikkbmgnaikaa
open Go.Proofs.Ytiaikkbmgnaikaa.Tre
open Go Go.ChangeShapes Go.WideShapes Go.ChangeAt Go.RowKit Bl Wg Sl
open Dm (NodesAt Nv NdOk SmallN)
attribute [local go_sem] zeroValueF
attribute [local simp] zeroCellsF_ne

theorem strsR_of_at {n : Nat} {W : World} {v : Value} {l : List ByteArray} (h : Dm.StrsAt n W v l) (hs : ∀ x ∈ l, x.size ≤ 281474976710656) : StrsR W v l := by
  refine ⟨?_, hs⟩
  rcases h with ⟨rfl, rfl | ⟨x, cap, rfl, _⟩⟩ | ⟨bk, off, cap, rfl, h1, h2, _, h⟩
  · exact .inl ⟨rfl, _, _, rfl⟩
  · exact .inl ⟨rfl, _, _, rfl⟩
  · refine .inr ⟨bk, off, cap, rfl, h1, h2, fun j x hx => ?_⟩
    have := h j x hx 0 (.string x) rfl
    rwa [Nat.mul_one, Nat.add_zero] at this
theorem names_okD {s : Sel} (h : OkD 1048576 8 s) : NamesOk s := fun p hp => by
  obtain ⟨⟨h1, h2, h3, _⟩, _⟩ := h p hp
  exact ⟨by omega, fun x hx => by have := h2 x hx; omega, fun x hx => by have := h3 x hx; omega⟩
theorem few_cutC {d : Nat} {c : Cp} (h : FewC c) : FewC (cutC d c) := ⟨h.1, h.2.1, h.2.2.1, by show (c.pss.map (cutP d)).length ≤ 5; rw [List.length_map]; exact h.2.2.2⟩
theorem few_cut {d : Nat} {s : Sel} (h : FewS s) : FewS (cutS d s) := ⟨by unfold cutS; rw [List.length_map]; exact h.1, fun p hp => by
  obtain ⟨q, hq, rfl⟩ := List.mem_map.1 hp
  exact few_cutC (h.2 q hq)⟩
theorem few_cut9 {l : List Sel} (h : FewL l) : FewL (Rf.cut9 l) := fun s hs => by
  obtain ⟨s1, h1, rfl⟩ := List.mem_map.1 hs
  obtain ⟨s2, h2, rfl⟩ := List.mem_map.1 h1
  exact few_cut (few_cut (h s2 h2))
theorem few_wants {s : Sel} (h : FewS s) : (wantsV s).length ≤ 1099511627776 := by
  have ha : ∀ i, (aboveV s i).length ≤ i ∧ ∀ c ∈ aboveV s i, FewC c := by
    intro i
    induction i with
    | zero => exact ⟨Nat.le_refl _, fun c hc => by simp [aboveV] at hc⟩
    | succ i ih =>
      rw [aboveV]
      split
      · rename_i q p hq hp
        split
        · refine ⟨by simp; exact ih.1, fun c hc => ?_⟩
          rcases List.mem_cons.1 hc with rfl | hc
          · exact h.2 p (List.mem_of_getElem? hp)
          · exact ih.2 c hc
        · exact ⟨Nat.zero_le _, fun c hc => by cases hc⟩
      · exact ⟨Nat.zero_le _, fun c hc => by cases hc⟩
  have hf : ∀ l : List Cp, (∀ c ∈ l, FewC c) → (l.flatMap cpNames).length ≤ 11 * l.length := by
    intro l
    induction l with
    | nil => intro _; simp
    | cons c l ih =>
      intro hc
      have h1 := ih (fun x hx => hc x (List.mem_cons_of_mem _ hx))
      obtain ⟨g1, g2, _⟩ := hc c (List.mem_cons_self ..)
      have h2 : (cpNames c).length ≤ 11 := by
        unfold cpNames
        have := names_len c.tag c.ids c.classes
        omega
      rw [List.flatMap_cons, List.length_append, List.length_cons]
      omega
  obtain ⟨a1, a2⟩ := ha (s.length - 1)
  have h3 := hf _ a2
  have h4 := h.1
  unfold wantsV
  omega
/-- The elements still to be pushed. -/
def restA (es : List Dm.El) (x : Int) : List Nat := if x = -1 then [] else x.toNat :: Mt.aheadV es 1 x.toNat
theorem rest_first {es : List Dm.El} (hO : Dm.TreeOk es) {e : Nat} (he : e < es.length) : Mt.aheadV es 1 e = restA es (Dm.parentV es e) := by
  rw [Mt.ahead_next hO he]
  rfl
theorem node_at {T : Rf.TE} {n : Nat} (hn : n < T.es.length) (hs : ∀ q ∈ T.es, SmallN q.nd) : SmallN (Dm.nodeV T.es (n : Int)) := by
  obtain ⟨q, hq⟩ : ∃ q, T.es[n]? = some q := ⟨_, List.getElem?_eq_getElem hn⟩
  unfold Dm.nodeV
  rw [Dm.elAt_yes hq]
  exact hs q (List.mem_of_getElem? hq)

set_option maxRecDepth 100000 in
set_option maxHeartbeats 4000000 in
theorem bloomDenies_walk (w : World) (v0 : Value) (l : List Nv) (hl : NodesAt w.heap.size w v0 l) (hN : ∀ n ∈ l, NdOk n.nd) (_h88 : l.length * 88 ≤ 140737488351232) (v1 : Value) (ss : List Sel) (hs : SelsR 11 w.heap.size w v1 ss) (ho : ∀ s ∈ ss, OkD 1048576 10 s) :
    Calls Try.prog 4 #[v0, v1] w fun e w' => e = .returned (.bool true) ∧ Below w.heap.size w w' := by
  obtain ⟨p0, cap0, rfl⟩ := hl.row.len
  obtain ⟨p1, cap1, rfl⟩ := RowT.len hs
  have hal := Bl.alive_any w
  have HLN : Hid (NodesAt w.heap.size w (.slice p0 l.length cap0) l) := hl
  have HNN : Hid (∀ n ∈ l, NdOk n.nd) := hN
  have HSS : Hid (SelsR 11 w.heap.size w (.slice p1 ss.length cap1) ss) := hs
  have HO : Hid (∀ s ∈ ss, OkD 1048576 10 s) := ho
  have hm1 := RowT.short hs
  unfold maxLen at hm1
  clear hl hN hs ho _h88
  go_enter Try.func4, Try.ntmps4
  go_wp2_with fail
  go_at_call 5
  refine Calls.mono hal ?_
  clear hal
  rintro r w1 ⟨rfl, b1⟩
  have hd := Dear_few _ ss w1 ((HSS.out.below 11 b1).mono 11 b1.size)
  go_wp2_with fail
  go_at_call 6
  refine Calls.mono hd ?_
  clear hd
  rintro r w2 ⟨t, rfl, HF, b2⟩
  have B2 := below_next b1 b2
  have hnew := Dm.refNew_any _ l w2 (HLN.out.below B2 |>.mono B2.size) HNN.out
  clear b1 b2
  cases t with
  | true =>
    clear HF
    go_wp2_with fail
    go_at_call 15
    refine Calls.mono hnew ?_
    clear hnew
    rintro r w3 ⟨hm, b3⟩
    have B3 := below_next B2 b3
    rcases hm with ⟨tb, nv, dv, ns, ds, es, _, rfl, _, _⟩ | ⟨x, _, rfl⟩
    · go_wp2
      go_ret
      exact ⟨rfl, B3⟩
    · go_wp2
      go_ret
      exact ⟨rfl, B3⟩
  | false =>
  have HFW : Hid (FewL ss) := HF.out rfl
  have hbig := Dm.big_small _ l w2 (HLN.out.below B2 |>.mono B2.size)
  clear HF
  go_wp2_with fail
  go_at_call 14
  refine Calls.mono hbig ?_
  clear hbig
  rintro r wx ⟨bg, rfl, hww, hsm⟩
  obtain rfl := hww.symm
  have HSM : Hid (bg = false → (l.length ≤ 40 ∧ ∀ n ∈ l, SmallN n.nd) ∨ 4096 < l.length) := hsm
  clear hww hsm
  go_wp2_with fail
  go_at_call 15
  refine Calls.mono hnew ?_
  clear hnew
  rintro r w3 ⟨hm, b3⟩
  have B3 := below_next B2 b3
  clear b3 B2
  rcases hm with ⟨tb, nv, dv, ns, ds, es, hnv, rfl, hR, hE⟩ | ⟨x, hnv, rfl⟩
  case inr =>
    cases bg with
    | true =>
      go_wp2
      go_ret
      exact ⟨rfl, B3⟩
    | false =>
      have hx : (x != 0) = true := by
        rcases Dm.newV_err hnv with rfl | rfl | rfl <;> rfl
      clear hnv HSM
      go_wp2
      go_ret
      exact ⟨rfl, B3⟩
  cases bg with
  | true =>
    clear hR hE hnv HSM
    go_wp2
    go_ret
    exact ⟨rfl, B3⟩
  | false =>
  obtain ⟨hl40, hsml⟩ : l.length ≤ 40 ∧ ∀ n ∈ l, SmallN n.nd := by
    rcases HSM.out rfl with h | h
    · exact h
    · have := (Dm.newV_ok hnv).2.2
      rw [List.length_map] at this
      omega
  obtain ⟨hTA, hsq, hle⟩ := Rf.TE.of_new hR hE hnv hsml
  obtain ⟨T, h1, h2, hT⟩ : ∃ T : Rf.TE, T.tb = tb ∧ T.es = es ∧ T.At w3 := ⟨_, rfl, rfl, hTA⟩
  subst h1
  subst h2
  have HT : Hid (T.At w3) := hT
  have HSQ : Hid (∀ q ∈ T.es, SmallN q.nd) := hsq
  have HLE : Hid (T.es.length = l.length) := hle
  have HS9 : Hid (SelsR 9 w.heap.size w (.slice p1 ss.length cap1) (Rf.cut9 ss)) := Rf.cut9_at HSS.out
  have HO9 : Hid (∀ s ∈ Rf.cut9 ss, OkD 1048576 8 s) := Rf.cut9_ok HO.out
  have HF9 : Hid (FewL (Rf.cut9 ss)) := few_cut9 HFW.out
  have HL9 : Hid ((Rf.cut9 ss).length = ss.length) := Rf.cut9_len ss
  have hw3 := B3.size
  have HB3 : Hid (Below w.heap.size w w3) := B3
  generalize l.length = N at *
  clear hR hE hnv hsml hTA hsq hle hT HSM HFW HO HSS HNN HLN B3
  go_wp2
  go_loopw [9] (fun x wr => ∃ e : Nat, x = .int .i64 e ∧ e ≤ N ∧ Below w3.heap.size w3 wr) (fun x _ => N - (intOf x).toNat)
  case atStart => exact ⟨0, rfl, Nat.zero_le _, Below.refl _ _⟩
  case round =>
    obtain ⟨e, rfl, heN, hb⟩ := hrel
    by_cases hlt : e < N
    case neg =>
      have hei : ¬ (e : Int) < (N : Int) := by omega
      have hf := HB3.out.trans (hb.mono hw3)
      go_wp2
      go_ret
      exact ⟨rfl, hf⟩
    have hei : (e : Int) < (N : Int) := by omega
    have hel : e < T.es.length := by rw [HLE.out]; exact hlt
    obtain ⟨wf, hwf⟩ : ∃ wf, wr.alloc (.cells Try.zeroCells45 45) = wf := ⟨_, rfl⟩
    have f0 : FltAt wf wr.heap.size (fun _ => 0) := by rw [← hwf]; exact FltAt.zero wr
    have bf : Below wr.heap.size wr wf := by rw [← hwf]; exact (Below.refl _ wr).alloc (Nat.le_refl _) _
    have hbf := below_next hb bf
    have hpa := Rf.parent_any T (e : Int) wf (HT.out.next hbf)
    have HR0 : Hid (Mt.aheadV T.es 1 e = restA T.es (Dm.parentV T.es e)) := rest_first HT.out.ok hel
    have hnx := Mt.parentV_lt HT.out.ok hel
    have he1 : (e : Int) + 1 ≤ 9223372036854775807 := by omega
    have HEB : Hid (e + 1 ≤ N) := hlt
    have HF0 : Hid (_ ∧ _ ∧ _ ∧ _) := ⟨f0, hbf, hnx, hb.size⟩
    obtain ⟨Fb, hFb⟩ : ∃ Fb, wr.heap.size = Fb := ⟨_, rfl⟩
    have HFB : Hid (wr.heap.size = Fb) := hFb
    obtain ⟨wo, hwo⟩ : ∃ wo, wo = wr := ⟨_, rfl⟩
    subst hwo
    clear f0 bf hbf hnx hb heN
    go_wp2_with fail
    go_at_call 16
    refine Calls.mono hpa ?_
    clear hpa hwf
    rintro r wx ⟨rfl, hww⟩
    obtain rfl := hww.symm
    clear hww
    rw [hFb] at HF0
    clear hFb
    generalize Dm.parentV T.es (e : Int) = x0 at *
    go_wp2
    go_loopw [11] (fun y wr => ∃ (x : Int) (pre : List Nat) (c : Nat → Nat), y = .int .i64 x ∧ (x = -1 ∨ ∃ n : Nat, x = (n : Int) ∧ n < T.es.length) ∧ Hid (Mt.aheadV T.es 1 e = pre ++ restA T.es x) ∧ Hid (∀ a ∈ pre, ∀ h ∈ ndH (Dm.nodeV T.es (a : Int)), mayV c (h : Int) = true) ∧ FltAt wr Fb c ∧ Below w3.heap.size w3 wr) (fun y _ => (intOf y + 1).toNat)
    case atStart => exact ⟨x0, [], _, rfl, HF0.out.2.2.1.imp_right (fun ⟨j, h1, h2⟩ => ⟨j, h1, by omega⟩), HR0, (fun a ha => (by cases ha)), HF0.out.1, HF0.out.2.1⟩
    case round =>
      obtain ⟨x, pre, c, rfl, hx, HP, HM, hflt, hb⟩ := hrel
      rcases hx with rfl | ⟨n, rfl, hn⟩
      · -- all ancestors are pushed
        have HMA : Hid (∀ a ∈ Mt.aheadV T.es 1 e, ∀ h ∈ ndH (Dm.nodeV T.es (a : Int)), mayV c (h : Int) = true) := by
          have h1 := HP.out
          rw [show restA T.es (-1) = [] from rfl, List.append_nil] at h1
          rw [h1]
          exact HM.out
        have HS0 : Hid (FltAt wr Fb c ∧ Below w3.heap.size w3 wr) := ⟨hflt, hb⟩
        obtain ⟨wq, hwq⟩ : ∃ wq, wq = wr := ⟨_, rfl⟩
        subst hwq
        clear HP HM hflt hb HR0 HF0
        go_wp2
        go_loopw [12] (fun y wr => ∃ i : Nat, y = .int .i64 i ∧ i ≤ ss.length ∧ FltAt wr Fb c ∧ Below w3.heap.size w3 wr) (fun y _ => ss.length - (intOf y).toNat)
        case atStart => exact ⟨0, rfl, Nat.zero_le _, HS0.out.1, HS0.out.2⟩
        case round =>
          clear HS0
          obtain ⟨i, rfl, hi, hflt, hb⟩ := hrel
          by_cases hil : i < ss.length
          case neg =>
            have hii : ¬ (i : Int) < (ss.length : Int) := by omega
            clear hi hil hflt
            go_wp2
            go_roundw
            case rel => exact ⟨e + 1, by go_num, HEB.out, hb⟩
            case measure => have := HEB.out; simp [intOf]; omega
          have hii : (i : Int) < (ss.length : Int) := by omega
          obtain ⟨z, hz⟩ : ∃ z, (Rf.cut9 ss)[i]? = some z := ⟨_, List.getElem?_eq_getElem (by rw [HL9.out]; exact hil)⟩
          have hzm := List.mem_of_getElem? hz
          obtain ⟨b, off, xv, he, hbn, hc1, hc2, hxp, y0⟩ := SelsR.get HS9.out hz
          subst he
          unfold maxLen at hc2
          rw [HL9.out] at hc1
          obtain ⟨q, cq, rfl⟩ := RowT.len hxp
          have hbw : Below w.heap.size w wr := HB3.out.trans (hb.mono hw3)
          have y1 := (hbw.cell (p := ⟨b, off + i, none⟩) hbn).trans y0
          have hsel := Rf.selector_any T z _ (e : Int) wr (HT.out.next hb) ((PartsR.below hxp hbw).mono hbw.size) (Rf.okS_of 8 (HO9.out z hzm))
          have HW : Hid (∀ X, Below wr.heap.size wr X → Calls Try.prog 8 #[.agg #[.slice q z.length cq]] X fun e w' => ∃ x, e = .returned x ∧ NumRow X.heap.size w' x (wantsV z) ∧ Below X.heap.size X w') := fun X hX => wants_any 8 _ z X ((PartsR.below hxp (below_next hbw hX)).mono (below_next hbw hX).size) (names_okD (HO9.out z hzm)) (few_wants (HF9.out z hzm))
          have HYC : Hid (∀ X, Below wr.heap.size wr X → X.cell? ⟨b, off + i, none⟩ = some (.slice q z.length cq)) := fun X hX => ((below_next hbw hX).cell (p := ⟨b, off + i, none⟩) hbn).trans y0
          have HMay : Hid (Rf.selectorV T.es (e : Int) z = true → ∀ x ∈ wantsV z, mayV c (x : Int) = true) := fun h x hx => by
            obtain ⟨a, ha, hxa⟩ := sel_wants HT.out.ok h x hx
            exact HMA.out a ha x hxa
          have hwl := few_wants (HF9.out z hzm)
          generalize Rf.selectorV T.es (e : Int) z = SV at *
          generalize wantsV z = wz at *
          have hi1 : (i : Int) + 1 ≤ 9223372036854775807 := by omega
          have HIB : Hid (i + 1 ≤ ss.length) := hil
          have HFL : Hid (FltAt wr Fb c ∧ Below w3.heap.size w3 wr) := ⟨hflt, hb⟩
          clear hz hzm hxp y0 hi hil hflt hb hbw hc1
          go_wp2_with fail
          go_at_call 19
          refine Calls.mono hsel ?_
          clear hsel y1
          rintro r w5 ⟨rfl, b5⟩
          have y1 := HYC.out w5 b5
          have hwant := HW.out w5 b5
          have HB5 : Hid (Below wr.heap.size wr w5) := b5
          clear b5 HYC HW
          go_wp2_with fail
          go_at_call 8
          refine Calls.mono hwant ?_
          clear hwant y1
          rintro r w6 ⟨xw, rfl, hrow, b6⟩
          obtain ⟨pw, cw, rfl⟩ := owns_form hrow
          have q6 : Below wr.heap.size wr w6 := below_next HB5.out b6
          have HS6 : Hid (FltAt w6 Fb c ∧ Below w3.heap.size w3 w6 ∧ IntsR w6 (.slice pw wz.length cw) (ints wz) ∧ Hid (∀ r, (Value.slice pw wz.length cw).ownBlock = some r → r < w6.heap.size)) := ⟨HFL.out.1.kept (q6.block Fb HFL.out.1.lt), below_next HFL.out.2 q6, NumRow.ints hrow, fun r hr => (owns_lt hrow hr).2⟩
          clear hrow b6 q6 HFL HB5
          obtain ⟨NW, hNW⟩ : ∃ NW, wz.length = NW := ⟨_, rfl⟩
          have HNW : Hid (wz.length = NW) := hNW
          rw [hNW] at HS6 hwl ⊢
          clear hNW
          obtain ⟨wp, hwp⟩ : ∃ wp, wp = wr := ⟨_, rfl⟩
          subst hwp
          go_wp2
          go_loopw [15] (fun y wr => ∃ k : Nat, y = .int .i64 k ∧ k ≤ NW ∧ FltAt wr Fb c ∧ Below w6.heap.size w6 wr) (fun y _ => NW - (intOf y).toNat)
          case atStart => exact ⟨0, rfl, Nat.zero_le _, HS6.out.1, Below.refl _ _⟩
          case round =>
            obtain ⟨k, rfl, hk, hflt, hb⟩ := hrel
            by_cases hkl : k < NW
            case neg =>
              have hki : ¬ (k : Int) < (NW : Int) := by omega
              have FIN : Hid (FltAt wr Fb c ∧ Below w3.heap.size w3 wr) := ⟨hflt, below_next HS6.out.2.1 hb⟩
              clear hk hkl hflt hb
              go_wp2
              go_roundw
              case rel => exact ⟨i + 1, by go_num, HIB.out, FIN.out.1, FIN.out.2⟩
              case measure => have := HIB.out; simp [intOf]; omega
            have hki : (k : Int) < (NW : Int) := by omega
            have hk1 : (k : Int) + 1 ≤ 9223372036854775807 := by omega
            have HKB : Hid (k + 1 ≤ NW) := hkl
            obtain ⟨h, hh⟩ : ∃ h, wz[k]? = some h := ⟨_, List.getElem?_eq_getElem (by rw [HNW.out]; exact hkl)⟩
            cases SV with
            | false =>
              clear hh hk hkl
              go_wp2
              go_roundw
              case rel => exact ⟨k + 1, by go_num, HKB.out, hflt, hb⟩
              case measure => have := HKB.out; simp [intOf]; omega
            | true =>
              have hmay := HMay.out rfl h (List.mem_of_getElem? hh)
              have hhi : (ints wz)[k]? = some (h : Int) := by unfold ints; rw [List.getElem?_map, hh]; rfl
              obtain ⟨bw, ow, hpe, hcw1, hcw2, hcell⟩ := IntsR.get HS6.out.2.2.1 hhi
              subst hpe
              unfold maxLen at hcw2
              have hblt : bw < w6.heap.size := HS6.out.2.2.2.out bw rfl
              have y2 := (hb.cell (p := ⟨bw, ow + k, none⟩) hblt).trans hcell
              have hcall := may_any Fb c (h : Int) wr hflt
              rw [hmay] at hcall
              have HS7 : Hid (FltAt wr Fb c ∧ Below w6.heap.size w6 wr) := ⟨hflt, hb⟩
              clear hh hk hkl hmay hhi hcell hflt hb hcw1
              go_wp2_with fail
              go_at_call 20
              refine Calls.mono hcall ?_
              clear hcall y2
              rintro r w7 ⟨rfl, b7⟩
              have FIN : Hid (FltAt w7 Fb c ∧ Below w6.heap.size w6 w7) := ⟨HS7.out.1.kept (b7.block Fb HS7.out.1.lt), below_next HS7.out.2 b7⟩
              clear b7 HS7
              go_wp2
              go_roundw
              case rel => exact ⟨k + 1, by go_num, HKB.out, FIN.out.1, FIN.out.2⟩
              case measure => have := HKB.out; simp [intOf]; omega
      · -- one ancestor more
        have hn0 : (0 : Int) ≤ (n : Int) := by omega
        have hTw := HT.out.next hb
        have hnode := Dm.refNode_any T.b T.tb T.nv T.dv T.ns T.ds T.es (n : Int) wr hTw.tr hTw.tells
        have hsn := node_at hn HSQ.out
        have HPN : Hid (Mt.aheadV T.es 1 e = (pre ++ [n]) ++ restA T.es (Dm.parentV T.es n)) := by
          show _ = _
          rw [HP.out, ← rest_first HT.out.ok hn]
          unfold restA
          rw [if_neg (by omega), Int.toNat_natCast, List.append_assoc]
          rfl
        have hnx := Mt.parentV_lt HT.out.ok hn
        have HST : Hid (_ ∧ _ ∧ _) := ⟨hflt, hb, hnx⟩
        have HDN : Hid (∀ c', (∀ h : Int, mayV c h = true → mayV c' h = true) → (∀ h ∈ ndH (Dm.nodeV T.es (n : Int)), mayV c' (h : Int) = true) → ∀ a ∈ pre ++ [n], ∀ h ∈ ndH (Dm.nodeV T.es (a : Int)), mayV c' (h : Int) = true) := fun c' h1 h2 a ha h hh => by
          rcases List.mem_append.1 ha with ha | ha
          · exact h1 _ (HM.out a ha h hh)
          · rw [List.mem_singleton] at ha
            subst ha
            exact h2 h hh
        unfold Dm.RNoded Dm.ndVal at hnode
        generalize hnd : Dm.nodeV T.es (n : Int) = nd at hnode hsn HDN
        obtain ⟨par, tag, id, cls, ats⟩ := nd
        simp only at hnode
        have HSN : Hid (SmallN ⟨par, tag, id, cls, ats⟩) := hsn
        clear hflt hb hnx HM HP hTw hsn hnd
        go_wp2_with fail
        go_at_call 18
        refine Calls.mono hnode ?_
        clear hnode
        rintro r w5 ⟨cv, av, rfl, hcv, hav, b5⟩
        obtain ⟨z1, z2, z3, z4, z5, z6⟩ := HSN.out
        simp only at z1 z2 z3 z4 z5 z6
        have hcs := strsR_of_at hcv (fun x hx => by have := z5 x hx; omega)
        obtain ⟨pc, cc, rfl⟩ := hcs.len
        obtain ⟨pa, ca, rfl⟩ := hav.len
        have hof := of_any par tag id pc cc pa ats.length ca cls w5 (by omega) (by omega) hcs (by omega)
        have HB5 : Hid (Below wr.heap.size wr w5) := b5
        clear hcv hav b5 hcs z1 z2 z3 z4 z5 z6
        go_wp2_with fail
        go_at_call 12
        refine Calls.mono hof ?_
        clear hof
        rintro r w6 ⟨xw, rfl, hrow, b6⟩
        obtain ⟨pw, cw, rfl⟩ := owns_form hrow
        have q6 : Below wr.heap.size wr w6 := below_next HB5.out b6
        have hflt6 : FltAt w6 Fb c := HST.out.1.kept (q6.block Fb HST.out.1.lt)
        have hpu := push_any Fb c _ _ w6 hflt6 (NumRow.ints hrow) (fun r hr _ => by
          have h1 := (owns_lt hrow hr).1
          have h2 := HST.out.1.lt
          have h3 := HB5.out.size
          omega)
        have HC : Hid (∀ i, c i ≤ 255) := HST.out.1.2
        have HB6 : Hid (Below w3.heap.size w3 w6) := below_next HST.out.2.1 q6
        obtain ⟨nm, hnm⟩ : ∃ nm, Bl.nodeV tag id cls = nm := ⟨_, rfl⟩
        have HNM : Hid (ndH ⟨par, tag, id, cls, ats⟩ = nm) := hnm
        rw [hnm] at hpu hrow ⊢
        have hFw3 : w3.heap.size ≤ Fb := by
          have h1 := HF0.out.2.2.2
          have h2 := HFB.out
          omega
        generalize nm.length = NM at *
        clear hrow b6 q6 hnm hflt6 HB5
        go_wp2_with fail
        go_at_call 17
        refine Calls.mono hpu ?_
        clear hpu
        rintro r w7 ⟨⟨u, rfl⟩, hf7, fr7⟩
        have hb7 : Below w3.heap.size w3 w7 := HB6.out.trans (fr7.below HB6.out.size (fun r (e : r = Fb) => by omega))
        have hpar := Rf.parent_any T (n : Int) w7 (HT.out.next hb7)
        have HS7 : Hid (FltAt w7 Fb (pushV c (ints nm)) ∧ Below w3.heap.size w3 w7) := ⟨hf7, hb7⟩
        have HM7 : Hid (∀ a ∈ pre ++ [n], ∀ h ∈ ndH (Dm.nodeV T.es (a : Int)), mayV (pushV c (ints nm)) (h : Int) = true) := HDN.out _ (fun h hm => push_keeps HC.out _ hm) (fun h hh => push_has HC.out (by rw [HNM.out] at hh; exact List.mem_map.2 ⟨h, hh, rfl⟩))
        have hnx := HST.out.2.2
        have HNX : Hid (_ ∨ _) := hnx
        clear hf7 fr7 hb7 HDN HST HB6 hnx
        go_wp2_with fail
        go_at_call 16
        refine Calls.mono hpar ?_
        clear hpar
        rintro r w8 ⟨rfl, hww⟩
        obtain rfl := hww.symm
        clear hww
        generalize Dm.parentV T.es (n : Int) = x1 at *
        go_wp2
        have hnx := HNX.out
        go_roundw
        case rel => exact ⟨x1, pre ++ [n], _, rfl, hnx.imp_right (fun ⟨j, h1, h2⟩ => ⟨j, h1, by omega⟩), HPN, HM7, HS7.out.1, HS7.out.2⟩
        case measure => rcases hnx with h | ⟨j, h, h2⟩ <;> simp [intOf, h] <;> omega


set_option maxRecDepth 100000 in
theorem bloomDenies_lifted (os : Os) (started : os.Started) (H : Type) (enc : TypeId × Value → H) (F : Stop.Interp) :
    ReturnsInHanded {} Try.checked os 4 .any ((Rows.OpenSpec.upto Rows.bloomDeniesSpec).pre6 enc Try.prog Try.f4 Rows.bloomDeniesUptoRow.domain false) (((Rows.OpenSpec.upto Rows.bloomDeniesSpec).at F).post enc Try.prog Try.f4 false true false false) := by
  refine returnsInHanded_of_cond_sized (C := Try.checked) (s := Rows.OpenSpec.upto Rows.bloomDeniesSpec) (k := Rows.uptoSmall) rfl ownNone started (by kernel_rfl) Try.func4
    (OpenSpec.witness (enc := enc) (C := Try.checked) (s := Rows.OpenSpec.upto Rows.bloomDeniesSpec) (k := Rows.uptoSmall) rfl false ⟨#[], #[.slice none 0 0, .slice none 0 0], []⟩ 8 (by kernel_rfl) (by kernel_rfl) (by kernel_rfl)
      (x := ([.nil, .nil], [], [])) (by kernel_rfl) rfl (by kernel_rfl)) ?_
  intro W base args ds gs before hval hW _ hk hsz0 _
  have hW' := hW
  obtain ⟨p, q, hA0, hV, rfl, hfz, hnd⟩ := hW
  have hA : DataW.TrodAll enc Try.prog W 0 (fun _ => true) true Try.f4.params.toList args.toList ds p := hA0
  rw [Try.params4] at hA hval hsz0
  obtain ⟨v0, vs0, d0, ds0, p0, q0, hargs, rfl, rfl, h0, r0⟩ := trodAll_cons hA
  obtain ⟨v1, vs1, d1, ds1, p1, q1, rfl, rfl, rfl, h1, r1⟩ := trodAll_cons r0
  obtain ⟨rfl, rfl, rfl⟩ := trodAll_nil r1
  obtain rfl : args = #[v0, v1] := by cases args; simp_all
  obtain ⟨rfl, rfl⟩ := trodVars_none hV
  have hsz := List.all_eq_true.1 hsz0
  simp only [List.append_nil] at hk
  obtain ⟨a0, len0, cap0, rfl⟩ := okWide_slice Try.underlying38 (hval 0 38 v0 rfl rfl)
  have k0 := h0
  have lt0 : ∀ x ∈ p0, x.block < W.heap.size := by obtain ⟨m, hm⟩ := k0; exact DataW.trod_lt m _ _ _ hm
  obtain ⟨z0, w0, y0, u0⟩ := Dm.nodesAt_of_reads k0 (fun n hn => by simpa using hsz n (DataW.weights_mem_each (j := 0) rfl rfl n hn))
  obtain ⟨a1, len1, cap1, rfl⟩ := okWide_slice Try.underlying26 (hval 1 26 v1 rfl rfl)
  have k1 := h1
  have lt1 : ∀ x ∈ p1, x.block < W.heap.size := by obtain ⟨m, hm⟩ := k1; exact DataW.trod_lt m _ _ _ hm
  obtain ⟨z1, w1, y1⟩ := selsUp_of_reads k1 hk (by simp)
  clear hA0
  refine (bloomDenies_walk W _ z0 w0 y0 u0 _ z1 w1 y1).mono fun e W' ⟨he, bel⟩ => ?_
  subst he
  exact ⟨_, rfl, _, _, _, [], _, [], hW', trodAll_mk1 (shut_bool Try.underlying4 _), (trodAll_cons_mk (Below.trod laidOut (by kernel_rfl) (of_decide_eq_true (by kernel_rfl)) k0 bel lt0) (trodAll_cons_mk (Below.trod laidOut (by kernel_rfl) (of_decide_eq_true (by kernel_rfl)) k1 bel lt1) trodAll_mk0)), rfl, bel.frame _, fun h => by cases h⟩

theorem bloomDenies_upto : Rows.BloomDeniesUptoSaid :=
  OpenClaim.holds_of_cond 4 Try.f4 rfl rfl rfl rfl rfl rfl rfl ⟨rfl, rfl, rfl, rfl, rfl⟩ rfl rfl rfl rfl rfl (by kernel_rfl) Try.func4 (by kernel_rfl)
    (of_decide_eq_true (by kernel_rfl)) (by unfold Func.isWrapper; first | (rw [if_pos (by decide +kernel)]; kernel_rfl) | (rw [if_neg (by decide +kernel)]; exact ⟨rfl, rfl⟩))
    (fun os started H enc _ F => bloomDenies_lifted os started H enc F)
#print axioms bloomDenies_upto

end Go.Proofs.Ytiaikkbmgnaikaa
