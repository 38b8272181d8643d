/- Each rule that an element has is found by its buckets: plain facts; the document's Any; rules as arguments of the second form. -/
import Derived.Test.YtchfnnoabejlpabGreatRfGe
import Derived.Test.YtchfnnoabejlpabGreatBkD
import Derived.Test.YtchfnnoabejlpabGreatBkFor
import Derived.Test.YtchfnnoabejlpabGreatWgG
namespace Go.Proofs.YtchfnnoabejlpabGreat.Rf
open Go Go.RowKit Sl Wg Bk Go.Proofs.YtchfnnoabejlpabGreat.Tre
open Dm (El Nd parentV placeV childrenV nodeV beforeV TreeOk)

theorem selB_cut (d : Nat) (s : Sel) : selB (cutS d s) = selB s := by
  unfold selB cutS
  rw [List.getLast?_map]
  cases s.getLast? <;> rfl
theorem last_part {s : Sel} (h : 0 < s.length) : s.getLast? = some (Mt.partAt s (s.length - 1)) := by
  rw [List.getLast?_eq_getElem?]
  unfold Mt.partAt
  have hl : s.length - 1 < s.length := by omega
  rw [List.getElem?_eq_getElem hl, List.getD, List.getElem?_eq_getElem hl]
  rfl
/-- A compound that says a node's names has its bucket among the node's. -/
theorem named_bkt {nd : Nd} {c : Cp} (h : Mt.namedV nd c = true) : bktOf c ∈ bktsV ⟨nd.tag, nd.id, nd.cls⟩ := by
  unfold Mt.namedV at h
  simp only [Bool.and_eq_true, Bool.or_eq_true, decide_eq_true_eq, List.all_eq_true, List.any_eq_true] at h
  obtain ⟨⟨⟨ht, hi⟩, hc⟩, _⟩ := h
  unfold bktOf bktsV
  simp only [List.mem_append, List.mem_cons, List.not_mem_nil, or_false, List.mem_map]
  cases hci : c.ids with
  | cons x l =>
    obtain ⟨h1, h2⟩ := hi x (by rw [hci]; exact List.mem_cons_self ..)
    subst h2
    refine .inl (.inr ?_)
    rw [if_neg h1]
    exact List.mem_singleton.2 rfl
  | nil =>
    cases hcc : c.classes with
    | cons x l =>
      obtain ⟨y, hy, e⟩ := hc x (by rw [hcc]; exact List.mem_cons_self ..)
      subst e
      exact .inr ⟨y, hy, rfl⟩
    | nil =>
      simp only
      by_cases h0 : c.tag = ⟨#[]⟩
      · rw [if_pos h0]
        exact .inl (.inl (.inl rfl))
      · rw [if_neg h0]
        rcases ht with ht | ht
        · exact absurd ht h0
        · exact .inl (.inl (.inr (by rw [ht])))
theorem sel_bkt {es : List El} {e : Nat} {s : Sel} (h : selectorV es (e : Int) s = true) : ∃ b, selB s = some b ∧ b ∈ bktsV ⟨(nodeV es (e : Int)).tag, (nodeV es (e : Int)).id, (nodeV es (e : Int)).cls⟩ := by
  unfold selectorV at h
  rw [Bool.and_eq_true, Bool.and_eq_true, Int.toNat_natCast] at h
  have h2 := h.2.2
  unfold Mt.selV at h2
  rw [Bool.and_eq_true, decide_eq_true_eq] at h2
  obtain ⟨hl, hu⟩ := h2
  have hc : Mt.compV (Mt.anyV es 8) es (Mt.partAt s (s.length - 1)).2 e = true := by
    cases hk : s.length - 1 with
    | zero => rw [hk] at hu; unfold Mt.uptoV at hu; exact hu
    | succ k => rw [hk] at hu; unfold Mt.uptoV at hu; rw [Bool.and_eq_true] at hu; exact hu.1
  refine ⟨bktOf (Mt.partAt s (s.length - 1)).2, by unfold selB; rw [last_part hl]; rfl, named_bkt ?_⟩
  unfold Mt.compV at hc
  rw [Bool.and_eq_true] at hc
  exact hc.1
/-- What Any answers of a rule's selectors. -/
def ruleV (es : List El) (e : Int) (r : Rl) : Bool := r.any (fun s => selectorV es e (cutS 8 (cutS 9 s)))
theorem rule_found {es : List El} {e : Nat} {l : List Rl} {i : Nat} {r : Rl} (hr : l[i]? = some r) (h : ruleV es (e : Int) r = true) : i ∈ forV l (bktsV ⟨(nodeV es (e : Int)).tag, (nodeV es (e : Int)).id, (nodeV es (e : Int)).cls⟩) := by
  rw [forV_mem]
  refine ⟨r, hr, ?_⟩
  unfold ruleV at h
  rw [List.any_eq_true] at h
  obtain ⟨s, hs, hv⟩ := h
  obtain ⟨b, h1, h2⟩ := sel_bkt hv
  rw [selB_cut, selB_cut] at h1
  unfold hitB
  rw [List.any_eq_true]
  refine ⟨b, h2, ?_⟩
  unfold inB
  rw [List.any_eq_true]
  exact ⟨s, hs, decide_eq_true h1⟩

set_option maxRecDepth 100000 in
set_option maxHeartbeats 1000000 in
/-- The document's Any. -/
theorem given_any (T : TE) (l : Rl) (v : Value) (e : Int) (w : World) (hT : T.At w) (hv : SelsR 11 w.heap.size w v l) (hok : ∀ s ∈ l, OkD 1048576 10 s) :
    Calls Tryz.prog 11 #[T.p, .int .i64 e, v] w fun r w' => r = .returned (.bool (ruleV T.es e l)) ∧ Below w.heap.size w w' := by
  obtain ⟨q, c, rfl⟩ := RowT.len hv
  have hsh := hv.short
  unfold maxLen at hsh
  have HT : Hid (T.At w) := hT
  have HV : Hid (SelsR 11 w.heap.size w (.slice q l.length c) l) := hv
  have HOK : Hid (∀ s ∈ l, OkD 1048576 10 s) := hok
  clear hT hv hok
  go_enter Tryz.func11, Tryz.ntmps11
  go_wp2
  go_loopw [7] (fun y wr => ∃ k : Nat, y = .int .i64 k ∧ k ≤ l.length ∧ Hid ((l.take k).any (fun s => selectorV T.es e (cutS 8 (cutS 9 s))) = false) ∧ Below w.heap.size w wr) (fun y _ => l.length - (intOf y).toNat)
  case atStart => exact ⟨0, rfl, Nat.zero_le _, rfl, Below.refl _ _⟩
  case round =>
    obtain ⟨k, rfl, hk, HN, bw⟩ := hrel
    by_cases hlt : k < l.length
    · have hki : (k : Int) < (l.length : Int) := by omega
      obtain ⟨s, hs⟩ : ∃ s, l[k]? = some s := ⟨_, List.getElem?_eq_getElem hlt⟩
      obtain ⟨b, off, x, rfl, hb, hc1, hc2, hx, y0⟩ := SelsR.get (HV.out.next bw) hs
      obtain ⟨qp, cp, rfl⟩ := RowT.len hx
      have hsel := selector_any T (cutS 8 (cutS 9 s)) (.slice qp s.length cp) e wr (HT.out.next bw) (PartsR.cut (PartsR.cut hx)) (okS_of 8 (OkD_cut 8 (OkD_cut 9 (HOK.out s (List.mem_of_getElem? hs)))))
      have HNX : Hid ((l.take (k + 1)).any (fun s => selectorV T.es e (cutS 8 (cutS 9 s))) = selectorV T.es e (cutS 8 (cutS 9 s))) := by
        show _ = _
        rw [any_snoc (fun s => selectorV T.es e (cutS 8 (cutS 9 s))) hs, show (l.take k).any _ = false from HN.out, Bool.false_or]
      have HYES : Hid (selectorV T.es e (cutS 8 (cutS 9 s)) = true → ruleV T.es e l = true) := fun h => List.any_eq_true.2 ⟨s, List.mem_of_getElem? hs, h⟩
      generalize selectorV T.es e (cutS 8 (cutS 9 s)) = V at *
      unfold maxLen at hc2
      clear hx hs
      go_wp2_with fail
      refine hsel.mono ?_
      clear hsel y0
      rintro r X ⟨rfl, bX⟩
      have b2 := below_next bw bX
      cases V with
      | true =>
        have HR : Hid (ruleV T.es e l = true) := HYES.out rfl
        go_wp2
        go_ret
        exact ⟨by rw [show ruleV T.es e l = true from HR.out]; rfl, b2⟩
      | false =>
        go_wp2
        go_roundw
        case rel => exact ⟨k + 1, by go_num, by omega, HNX, b2⟩
        case measure => simp [intOf]; omega
    · have hki : ¬ (k : Int) < (l.length : Int) := by omega
      have FIN : Hid (ruleV T.es e l = false) := by
        have h := HN.out
        rw [List.take_of_length_le (by omega)] at h
        exact h
      go_wp2
      go_ret
      exact ⟨by rw [show ruleV T.es e l = false from FIN.out]; rfl, bw⟩

/-! ### rules as arguments of the second form -/
theorem row_uniqB {α : Type} {sz : Nat} {T T' : List Value → α → Prop} {n n' : Nat} {W : World} {v : Value} {l l' : List α} (h : RowT sz T n W v l) (h' : RowT sz T' n' W v l') (hT : ∀ c x y, T c x → T' c y → x = y) : l = l' := by
  rcases h with ⟨rfl, p, c, rfl⟩ | ⟨b, off, cap, rfl, h1, h2, h3, h4⟩
  · rcases h' with ⟨rfl, _⟩ | ⟨b, off, cap, e, _⟩
    · rfl
    · cases hl : l' with
      | nil => rfl
      | cons x r => rw [hl] at e; simp at e
  · rcases h' with ⟨rfl, p, c, e⟩ | ⟨b', off', cap', e, g1, g2, g3, g4⟩
    · cases hl : l with
      | nil => rfl
      | cons x r => rw [hl] at e; simp at e
    · simp only [Value.slice.injEq, Option.some.injEq, Addr.mk.injEq, and_true] at e
      obtain ⟨⟨rfl, rfl⟩, hlen, rfl⟩ := e
      refine List.ext_getElem hlen (fun j hj hj' => ?_)
      obtain ⟨c, hc, ht, hcell⟩ := h4 j _ (List.getElem?_eq_getElem hj)
      obtain ⟨c', hc', ht', hcell'⟩ := g4 j _ (List.getElem?_eq_getElem hj')
      have hcc : c = c' := List.ext_getElem (hc.trans hc'.symm) (fun i hi hi' => by
        have a := hcell i _ (List.getElem?_eq_getElem hi)
        have a' := hcell' i _ (List.getElem?_eq_getElem hi')
        rw [a] at a'
        exact Option.some.inj a')
      subst hcc
      exact hT c _ _ ht ht'
theorem cpc_uniqB {Q Q' : Value → List Sel → Prop} (hQ : ∀ v l l', Q v l → Q' v l' → l = l') {n n' : Nat} {W : World} {cs : List Value} {c c' : Cp} (h : CpC Q n W cs c) (h' : CpC Q' n' W cs c') : c = c' := by
  obtain ⟨i, k, a, p, e, r1, r2, r3, r4⟩ := h
  obtain ⟨i', k', a', p', e', g1, g2, g3, g4⟩ := h'
  rw [e] at e'
  simp only [List.cons.injEq, Value.string.injEq, and_true] at e'
  obtain ⟨ht, rfl, rfl, rfl, rfl⟩ := e'
  have q1 := row_uniqB r1 g1 (fun c x y hx hy => by
    rw [show c = _ from hx] at hy
    simpa [StrC] using hy)
  have q2 := row_uniqB r2 g2 (fun c x y hx hy => by
    rw [show c = _ from hx] at hy
    simpa [StrC] using hy)
  have q3 := row_uniqB r3 g3 (fun c x y hx hy => by
    rw [show c = _ from hx] at hy
    obtain ⟨x1, x2, x3⟩ := x
    obtain ⟨y1, y2, y3⟩ := y
    simpa [AtC] using hy)
  have q4 := row_uniqB r4 g4 (fun c x y ⟨u, hu, hx⟩ ⟨u', hu', hy⟩ => by
    rw [hu] at hu'
    obtain ⟨x1, x2, x3, x4⟩ := x
    obtain ⟨y1, y2, y3, y4⟩ := y
    simp only [List.cons.injEq, Value.int.injEq, true_and, and_true, Ps.kind, Ps.a, Ps.b] at hu'
    obtain ⟨rfl, rfl, rfl, rfl⟩ := hu'
    rw [show x4 = y4 from hQ _ _ _ hx hy])
  obtain ⟨t1, t2, t3, t4, t5⟩ := c
  obtain ⟨u1, u2, u3, u4, u5⟩ := c'
  simp only [Cp.tag, Cp.ids, Cp.classes, Cp.attrs, Cp.pss] at ht q1 q2 q3 q4
  rw [ht, q1, q2, q3, q4]
theorem pts_uniqB {Q Q' : Value → List Sel → Prop} (hQ : ∀ v l l', Q v l → Q' v l' → l = l') {n n' : Nat} {W : World} {v : Value} {s s' : Sel} (h : PtsR Q n W v s) (h' : PtsR Q' n' W v s') : s = s' :=
  row_uniqB h h' (fun c x y ⟨u, hu, hx⟩ ⟨u', hu', hy⟩ => by
    rw [hu] at hu'
    simp only [List.cons.injEq, Value.int.injEq, true_and] at hu'
    obtain ⟨h1, rfl⟩ := hu'
    exact Prod.ext h1 (cpc_uniqB hQ hx hy))
theorem sels_uniqB : ∀ (d : Nat) {n n' : Nat} {W : World} (v : Value) (l l' : List Sel), SelsR d n W v l → SelsR d n' W v l' → l = l'
  | 0, _, _, _, _, _, _, h, h' => h.1.trans h'.1.symm
  | d + 1, n, n', W, _, _, _, h, h' => row_uniqB h h' (fun c x y ⟨u, hu, hx⟩ ⟨u', hu', hy⟩ => by
    rw [hu] at hu'
    simp only [List.cons.injEq, and_true] at hu'
    subst hu'
    exact pts_uniqB (fun v l l' => sels_uniqB d v l l') hx hy)
set_option maxRecDepth 100000 in
theorem rulesUp_of {H : Type} {enc : TypeId × Value → H} {W : World} {a : Option Addr} {len cap : Nat} {d : DataW H} {p : List MemPlace} {l : List Rl} {ds : List (DataW H)}
    (h : DataW.Trod enc Tryz.prog W 0 (fun _ => true) true 22 (.slice a len cap) d p) (hl : RulesR 11 W.heap.size W (.slice a len cap) l) (hk : Rows.uptoSmall H ds = true) (hd : d ∈ ds) : ∀ r ∈ l, ∀ s ∈ r, OkD 1048576 10 s := by
  obtain ⟨fuel, hf⟩ := h
  have hb : Rows.uptoBulkAll ds ≤ 1048576 := of_decide_eq_true hk
  have : Inhabited Rl := ⟨[]⟩
  obtain ⟨l2, h1, h2, _⟩ := row_inR (R := 1048576) 2 (by decide) (fun c r => ∃ x p m k, c = [x, .slice p m k] ∧ SelsR 11 W.heap.size W x r) (fun r : Rl => ∀ s ∈ r, OkD 1048576 10 s) Tryz.underlying22 cells_rule (v := .slice a len cap) hf (Nat.le_trans (Wg.bulk_part hd) hb) (fun n cs y hy hwy hl => by
    obtain ⟨xs, n', _, rfl, _, hxl, hf⟩ := DataW.trod_struct Tryz.underlying43 hy
    match cs, hl with
    | [c0, c1], _ =>
      match xs, hxl with
      | [y0, y1], _ =>
        have f0 := hf 0 _ rfl
        have f1 := hf 1 _ rfl
        simp only [List.getElem?_cons_zero, List.getElem?_cons_succ] at f0 f1
        have f0' : DataW.trod enc Tryz.prog W 0 (fun _ => true) true n' 40 [c0] = some y0 := f0
        have f1' : DataW.trod enc Tryz.prog W 0 (fun _ => true) true n' 41 [c1] = some y1 := f1
        simp only [Rows.uptoBulk, Rows.uptoBulkAll, List.map_cons, List.map_nil] at hwy
        obtain ⟨ls, g1, g2⟩ := sels_inR 1048576 11 f0' (by omega)
        have hc1 : ∃ p m k, c1 = .slice p m k := by
          rcases Deep.open_slice Tryz.underlying41 f1' with ⟨hcs, _⟩ | ⟨x, len, cap, m, n, D, Pl, hcs, _⟩
          · cases hcs; exact ⟨_, _, _, rfl⟩
          · cases hcs; exact ⟨_, _, _, rfl⟩
        obtain ⟨p1, m1, k1, rfl⟩ := hc1
        exact ⟨ls, ⟨c0, p1, m1, k1, rfl, g1⟩, g2⟩)
  have e : l = l2 := row_uniqB hl h1 (fun c x y ⟨u, p, m, k, hu, hx⟩ ⟨u', p', m', k', hu', hy⟩ => by
    rw [hu] at hu'
    simp only [List.cons.injEq] at hu'
    obtain ⟨rfl, _⟩ := hu'
    exact sels_uniqB 11 u x y hx hy)
  rw [e]
  exact h2

end Go.Proofs.YtchfnnoabejlpabGreat.Rf
