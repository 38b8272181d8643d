/- The document's own tree, as matching reads it; last. -/
import Derived.Test.YtchfnnoabejlpabGreatDmGe
import Derived.Test.YtchfnnoabejlpabGreatMtGz
import Derived.Test.YtchfnnoabejlpabGreatRfGa
namespace Go.Proofs.YtchfnnoabejlpabGreat.Rf
open Go Go.RowKit Dm

/-- A tree of the document's, as it lies in memory, and what its elements are. -/
structure TE where
  b : Nat
  tb : Nat
  nv : Value
  dv : Value
  ns : List Nv
  ds : List Int
  es : List El
structure TE.At (T : TE) (W : World) : Prop where
  tr : RTr T.b W T.tb T.nv T.dv T.ns T.ds
  tells : Tells T.es T.ns T.ds
  ok : TreeOk T.es
  len : T.es.length ≤ 4096
  small : ∀ n ∈ T.ns, ∀ p ∈ n.nd.ats, p.2.size ≤ 1099511627776
theorem TE.At.next {T : TE} {W X : World} (h : T.At W) (hb : Below W.heap.size W X) : T.At X := ⟨h.tr.next hb, h.tells, h.ok, h.len, h.small⟩
abbrev TE.p (T : TE) : Value := .pointer (some ⟨T.tb, 0, none⟩)

theorem is_any (T : TE) (e : Int) (w : World) (hT : T.At w) : Calls Tryz.prog 20 #[T.p, .int .i64 e] w fun x w' => x = .returned (.bool (decide (0 ≤ e ∧ e < (T.es.length : Int)))) ∧ w' = w := by
  have h := refIs_any T.b T.tb T.nv T.dv T.ns T.ds e w hT.tr
  rw [hT.tells.len.1] at h
  exact h
theorem parent_any (T : TE) (e : Int) (w : World) (hT : T.At w) : Calls Tryz.prog 105 #[T.p, .int .i64 e] w fun x w' => x = .returned (.int .i64 (parentV T.es e)) ∧ w' = w := refParent_any T.b T.tb T.nv T.dv T.ns T.ds T.es e w hT.tr hT.tells
theorem before_any (T : TE) (e : Int) (w : World) (hT : T.At w) : Calls Tryz.prog 106 #[T.p, .int .i64 e] w fun x w' => x = .returned (.int .i64 (beforeV T.es e)) ∧ ∃ n, w' = w.drewN n := refBefore_any T.b T.tb T.nv T.dv T.ns T.ds T.es e w hT.tr hT.tells hT.ok hT.len
theorem place_any (T : TE) (e : Int) (w : World) (hT : T.At w) : Calls Tryz.prog 118 #[T.p, .int .i64 e] w fun x w' => x = .returned (.int .i64 (placeV T.es e)) ∧ ∃ n, w' = w.drewN n := refPlace_any T.b T.tb T.nv T.dv T.ns T.ds T.es e w hT.tr hT.tells hT.ok hT.len
theorem children_any (T : TE) (e : Int) (w : World) (hT : T.At w) : Calls Tryz.prog 120 #[T.p, .int .i64 e] w fun x w' => ∃ v', x = .returned v' ∧ IntRow w.heap.size w' v' (chI (childrenV T.es e)) ∧ Below w.heap.size w w' := refChildren_any T.b T.tb T.nv T.dv T.ns T.ds T.es e w hT.tr hT.tells hT.ok hT.len
theorem below_drawn (w : World) (n : Nat) : Below w.heap.size w (w.drewN n) := ⟨rfl, rfl, rfl, Nat.le_refl _, fun _ _ => rfl⟩

set_option maxRecDepth 100000 in
set_option maxHeartbeats 2000000 in
theorem last_any (T : TE) (k : Nat) (w : World) (hT : T.At w) (hk : k < T.es.length) :
    Calls Tryz.prog 119 #[T.p, .int .i64 k] w fun x w' => x = .returned (.bool (Mt.lastV T.es k)) ∧ ∃ n, w' = w.drewN n := by
  obtain ⟨V, hV⟩ : ∃ V, Mt.lastV T.es k = V := ⟨_, rfl⟩
  rw [hV]
  unfold Mt.lastV at hV
  have hlen := hT.len
  have hnl := hT.tells.len.1
  by_cases hk0 : k = 0
  · subst hk0
    obtain rfl : true = V := by rw [← hV, par_root hT.ok hk]; rfl
    obtain ⟨⟨c0, _⟩, _⟩ := blk2 hT.tr.blk
    clear hV hT hnl
    go_enter Tryz.func119, Tryz.ntmps119
    go_wp2
    go_loopw [5] (fun y wr => y = .int .i64 1 ∧ wr = w) (fun _ _ => 0)
    case atStart => exact ⟨by go_num, rfl⟩
    case round =>
      obtain ⟨rfl, rfl⟩ := hrel
      go_wp2
      go_ret
      exact ⟨rfl, 0, rfl⟩
  · obtain ⟨p, hp, hpk⟩ := par_lt hT.ok hk (by omega)
    obtain ⟨qp, hqp⟩ : ∃ q, T.es[p]? = some q := ⟨_, List.getElem?_eq_getElem (by omega)⟩
    have hch : childrenV T.es (p : Int) = kidsTo T.es p T.es.length := by rw [children_at hqp, kids_all hT.ok hqp]
    have hpl := place_kids hT.ok hk hp
    rw [hp, hch, hpl, decide_eq_false (by omega), Bool.false_or] at hV
    have hk1 : (kidsTo T.es p (k + 1)).length = (kidsTo T.es p k).length + 1 := by rw [kids_next, if_pos hp]; simp
    have HV : Hid (V = decide ((kidsTo T.es p (k + 1)).length = (kidsTo T.es p T.es.length).length)) := by
      show _ = _
      rw [← hV, hk1]
      congr 1
      rw [eq_iff_iff]
      omega
    have HSP : Hid (∀ i, k < i → i < T.es.length → kidsTo T.es p i = kidsTo T.es p (k + 1) → parentV T.es (i : Int) = (p : Int) → V = false) := fun i _ h2 h3 h4 => by
      obtain ⟨r, hr⟩ := kids_split h4 T.es.length h2
      rw [HV.out, hr, h3]
      exact decide_eq_false (by simp)
    have HT : Hid (T.At w) := hT
    obtain ⟨nk, hnk⟩ : ∃ n, T.ns[k]? = some n := ⟨_, List.getElem?_eq_getElem (by omega)⟩
    obtain ⟨qk, hqk, hqnk, _⟩ := hT.tells.at hnk
    have hpark : nk.nd.parent = (p : Int) := by rw [← hqnk, ← par_at hqk]; exact hp
    have hkd : decide ((0 : Int) < (k : Int)) = true := by simp; omega
    have hkd2 : decide (0 < k) = true := by simp; omega
    obtain ⟨L, hL⟩ : ∃ L, T.es.length = L := ⟨_, rfl⟩
    have HL : Hid (T.es.length = L) := hL
    rw [hL] at hlen hk hnl HV HSP
    clear hV hT hch hpl hqp hL hk1
    go_enter Tryz.func119, Tryz.ntmps119
    go_wp2
    go_loopw [5] (fun y wr => ∃ i : Nat, y = .int .i64 i ∧ k < i ∧ i ≤ L ∧ Hid (kidsTo T.es p i = kidsTo T.es p (k + 1)) ∧ ∃ n, wr = w.drewN n) (fun y _ => L - (intOf y).toNat)
    case atStart => exact ⟨k + 1, by go_num, by omega, by omega, rfl, 0, rfl⟩
    case round =>
      obtain ⟨i, rfl, hki, hiL, HK, m, rfl⟩ := hrel
      have hTr := HT.out.tr
      obtain ⟨⟨c0, _⟩, _⟩ := blk2 hTr.blk
      by_cases hlt : i < L
      · have hii : (i : Int) < (L : Int) := by omega
        have hid : decide ((i : Int) < (L : Int)) = true := by simp; omega
        have hid2 : decide (i < L) = true := by simp; omega
        obtain ⟨ni, hni⟩ : ∃ n, T.ns[i]? = some n := ⟨_, List.getElem?_eq_getElem (by omega)⟩
        obtain ⟨qi, hqi, hqn, _⟩ := HT.out.tells.at hni
        have hpar : parentV T.es (i : Int) = ni.nd.parent := by rw [par_at hqi, hqn]
        have hnx := kids_next T.es p i
        rw [hpar, HK.out] at hnx
        obtain ⟨g, c, hg, hr1, hr2, x0, _⟩ := hTr.get hni
        rw [hg] at c0
        obtain ⟨g', c', hgc, _, _, y0, _⟩ := hTr.get hnk
        rw [hg] at hgc
        cases hgc
        rw [hpark] at y0
        unfold maxLen at hr2
        rw [hnl] at c0 hr1
        have hkl : (k : Int) < (L : Int) := by omega
        have hi1 : (i : Int) + 1 ≤ 9223372036854775807 := by omega
        by_cases hpe : ni.nd.parent = (p : Int)
        · obtain rfl : V = false := HSP.out i hki hlt HK.out (hpar.trans hpe)
          rw [hpe] at x0
          clear hTr hni hqi hqn hpar hnx hpe hnk hqk hqnk hpark HSP HV HK hg hlt hki hiL hlen hk hnl hp hpk hk0 hr1
          go_wp2
          go_quiet (fail)
          go_wp2
          go_ret
          exact ⟨rfl, _, by first | rfl | (simp; rfl)⟩
        · rw [if_neg hpe, List.append_nil] at hnx
          have HNX : Hid (_ = _) := hnx
          have hne : (ni.nd.parent == (p : Int)) = false := by simpa using hpe
          generalize ni.nd.parent = pn at *
          have HB : Hid (k < i + 1 ∧ i + 1 ≤ L) := ⟨by omega, by omega⟩
          clear hTr hni hqi hqn hpar hnx hnk hqk hqnk hpark hg HK hlt hki hiL hlen hk hnl hp hpk hk0 hr1 hpe
          go_wp2
          go_quiet (fail)
          go_wp2
          exact ⟨⟨i + 1, by go_num, HB.out.1, HB.out.2, HNX.out, _, by first | rfl | (simp; rfl)⟩, by have := HB.out; simp [intOf]; omega⟩
      · have hii : decide ((i : Int) < (L : Int)) = false := by simp; omega
        have hii2 : decide (i < L) = false := by simp; omega
        obtain ⟨⟨pn, cn, hnv⟩, _⟩ := hTr.form
        rw [hnv, hnl] at c0
        obtain rfl : V = true := by
          have h1 := HK.out
          rw [show i = L by omega] at h1
          rw [HV.out, h1]
          exact decide_eq_true rfl
        clear hTr HSP HV HK hnv
        go_wp2
        go_ret
        exact ⟨rfl, m, rfl⟩

end Go.Proofs.YtchfnnoabejlpabGreat.Rf
