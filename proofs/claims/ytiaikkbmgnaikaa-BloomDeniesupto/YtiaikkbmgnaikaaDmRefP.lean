/- The document's own tree: Place, Before. -/
import Derived.Test.YtiaikkbmgnaikaaDmRefC
namespace Go.Proofs.Ytiaikkbmgnaikaa.Dm
open Go Go.RowKit

theorem kids_split {es : List El} {p e : Nat} (hp : parentV es (e : Int) = (p : Int)) : ∀ n, e < n → ∃ r, kidsTo es p n = kidsTo es p e ++ e :: r
  | 0, h => by omega
  | n + 1, h => by
    rw [kids_next]
    by_cases he : e = n
    · subst he
      exact ⟨[], by rw [if_pos hp]⟩
    · obtain ⟨r, hr⟩ := kids_split hp n (by omega)
      exact ⟨r ++ _, by rw [hr, List.append_assoc, List.cons_append]⟩
theorem place_kids {es : List El} (hO : TreeOk es) {p e : Nat} (he : e < es.length) (hp : parentV es (e : Int) = (p : Int)) : placeV es (e : Int) = ((kidsTo es p e).length : Int) + 1 := by
  have h0 : 0 < e := by
    rcases Nat.eq_zero_or_pos e with h | h
    · subst h; rw [par_root hO he] at hp; omega
    · exact h
  obtain ⟨p', hp', hlt⟩ := par_lt hO he h0
  obtain rfl : p = p' := by omega
  obtain ⟨q, hq⟩ : ∃ q, es[p]? = some q := ⟨_, List.getElem?_eq_getElem (by omega)⟩
  obtain ⟨r, hr⟩ := kids_split hp es.length he
  rw [kids_all hO hq] at hr
  exact place_of hO hq (i := (kidsTo es p e).length) (by rw [hr]; simp)
theorem before_none {es : List El} (hO : TreeOk es) {p e : Nat} (he : e < es.length) (hp : parentV es (e : Int) = (p : Int)) (hlt : p < e) (hk : kidsTo es p e = []) : beforeV es (e : Int) = -1 := by
  obtain ⟨q, hq⟩ : ∃ q, es[p]? = some q := ⟨_, List.getElem?_eq_getElem (by omega)⟩
  obtain ⟨r, hr⟩ := kids_split hp es.length he
  rw [kids_all hO hq, hk] at hr
  exact before_first hO hq (by rw [hr]; rfl)
theorem before_some {es : List El} (hO : TreeOk es) {p e d : Nat} {a : List Nat} (he : e < es.length) (hp : parentV es (e : Int) = (p : Int)) (hlt : p < e) (hk : kidsTo es p e = a ++ [d]) : beforeV es (e : Int) = (d : Int) := by
  obtain ⟨q, hq⟩ : ∃ q, es[p]? = some q := ⟨_, List.getElem?_eq_getElem (by omega)⟩
  obtain ⟨r, hr⟩ := kids_split hp es.length he
  rw [kids_all hO hq, hk] at hr
  exact before_later hO hq (i := a.length) (by rw [hr]; simp) (by rw [hr]; simp)
theorem kids_one {es : List El} (hO : TreeOk es) (hl : 0 < es.length) (p : Nat) : kidsTo es p 1 = [] := by
  rw [show (1 : Nat) = 0 + 1 from rfl, kids_next, if_neg (by rw [par_root hO hl]; omega)]
  rfl

set_option maxRecDepth 100000 in
set_option maxHeartbeats 2000000 in
theorem refPlace_any (b tb : Nat) (nv dv : Value) (ns : List Nv) (ds : List Int) (es : List El) (e : Int) (w : World) (hT : RTr b w tb nv dv ns ds) (hE : Tells es ns ds) (hO : TreeOk es) (hl : es.length ≤ 4096) :
    Calls Try.prog 54 #[.pointer (some ⟨tb, 0, none⟩), .int .i64 e] w fun x w' => x = .returned (.int .i64 (placeV es e)) ∧ ∃ n, w' = w.drewN n := by
  have hh := refIs_any b tb nv dv ns ds e w hT
  have hnl := hE.len.1
  by_cases hin : 0 ≤ e ∧ e < (ns.length : Int)
  · rw [decide_eq_true hin] at hh
    obtain ⟨k, rfl⟩ : ∃ k : Nat, e = (k : Int) := ⟨e.toNat, by omega⟩
    have hk : k < ns.length := by omega
    by_cases hk0 : k = 0
    · subst hk0
      obtain ⟨q, hq⟩ : ∃ q, es[0]? = some q := ⟨_, List.getElem?_eq_getElem (by omega)⟩
      have hV : placeV es ((0 : Nat) : Int) = 1 := by
        unfold placeV
        rw [elAt_yes hq]
        show ((q.place : Nat) : Int) = 1
        rw [(hO.root q hq).2.2]
        rfl
      rw [hV]
      clear hT hE hO hin hV hq
      go_enter Try.func54, Try.ntmps54
      go_wp2_with fail
      refine hh.mono ?_
      clear hh
      rintro x w' ⟨rfl, rfl⟩
      go_wp2
      go_loopw [5, 6] (fun x y wr => x = .int .i64 1 ∧ y = .int .i64 1 ∧ wr = w') (fun _ _ _ => 0)
      case atStart => exact ⟨rfl, rfl, rfl⟩
      case round =>
        obtain ⟨rfl, rfl, rfl⟩ := hrel
        go_wp2
        go_ret
        exact ⟨rfl, 0, rfl⟩
    · obtain ⟨p, hp, hpk⟩ := par_lt hO (e := k) (by omega) (by omega)
      rw [place_kids hO (by omega) hp]
      have HT : Hid (RTr b w tb nv dv ns ds) := hT
      have HE : Hid (Tells es ns ds) := hE
      have HO : Hid (TreeOk es) := hO
      obtain ⟨nk, hnk⟩ : ∃ n, ns[k]? = some n := ⟨_, List.getElem?_eq_getElem hk⟩
      obtain ⟨qk, hqk, hqnk, _⟩ := hE.at hnk
      have hpark : nk.nd.parent = (p : Int) := by rw [← hqnk, ← par_at hqk]; exact hp
      have hone := kids_one hO (by omega) p
      have HONE : Hid (_ = _) := hone
      clear hT hE hO hone
      go_enter Try.func54, Try.ntmps54
      go_wp2_with fail
      refine hh.mono ?_
      clear hh
      rintro x w' ⟨rfl, rfl⟩
      go_wp2
      go_loopw [5, 6] (fun x y wr => ∃ i : Nat, x = .int .i64 (((kidsTo es p i).length : Int) + 1) ∧ y = .int .i64 i ∧ 1 ≤ i ∧ i ≤ k ∧ ∃ n, wr = w'.drewN n) (fun _ y _ => k - (intOf y).toNat)
      case atStart => exact ⟨1, by rw [HONE.out]; rfl, rfl, by omega, by omega, 0, rfl⟩
      case round =>
        obtain ⟨i, rfl, rfl, h1, hik, m, rfl⟩ := hrel
        have hkl := kids_len es p i
        by_cases hlt : i < k
        · have hii : (i : Int) < (k : Int) := by omega
          have hTr := HT.out
          obtain ⟨⟨c0, _⟩, _⟩ := blk2 hTr.blk
          obtain ⟨ni, hni⟩ : ∃ n, ns[i]? = some n := ⟨_, List.getElem?_eq_getElem (by omega)⟩
          obtain ⟨qi, hqi, hqn, _⟩ := HE.out.at hni
          have hpar : parentV es (i : Int) = ni.nd.parent := by rw [par_at hqi, hqn]
          have hnx := kids_next es p i
          rw [hpar] at hnx
          obtain ⟨g, c, rfl, hr1, hr2, x0, _⟩ := hTr.get hni
          obtain ⟨g', c', hgc, _, _, y0, _⟩ := hTr.get hnk
          cases hgc
          rw [hpark] at y0
          unfold maxLen at hr2
          have hin1 : (i : Int) < (ns.length : Int) := by omega
          have hkn1 : (k : Int) < (ns.length : Int) := by omega
          by_cases hpe : ni.nd.parent = (p : Int)
          · rw [if_pos hpe] at hnx
            have HNX : Hid (_ = _) := hnx
            rw [hpe] at x0
            have hw1 : IntKind.i64.wrap (((kidsTo es p i).length : Int) + 1 + 1) = ((kidsTo es p i).length : Int) + 1 + 1 := by rw [IntKind.wrap_i64]; omega
            clear hTr hni hqi hqn hpar hnx hpe hnk hqk hqnk hpark
            generalize hN : (kidsTo es p i).length = N at *
            go_wp2
            go_quiet (fail)
            go_wp2
            refine ⟨⟨i + 1, ?_, by go_num, by omega, by omega, _, by first | rfl | (simp; rfl)⟩, by simp [intOf]; omega⟩
            rw [HNX.out, List.length_append, List.length_singleton, hN]
            go_num
          · rw [if_neg hpe, List.append_nil] at hnx
            have HNX : Hid (_ = _) := hnx
            have hne : (ni.nd.parent == (p : Int)) = false := by simpa using hpe
            generalize ni.nd.parent = pn at *
            clear hTr hni hqi hqn hpar hnx hnk hqk hqnk hpark
            go_wp2
            go_quiet (fail)
            go_wp2
            exact ⟨⟨i + 1, by rw [HNX.out], by go_num, by omega, by omega, _, by first | rfl | (simp; rfl)⟩, by simp [intOf]; omega⟩
        · have hii : ¬ (i : Int) < (k : Int) := by omega
          obtain rfl : i = k := by omega
          go_wp2
          go_ret
          exact ⟨rfl, m, rfl⟩
  · rw [decide_eq_false hin] at hh
    have hV : placeV es e = 0 := by unfold placeV; rw [elAt_no (fun h => hin (by rw [← hnl] at h; exact h))]; rfl
    rw [hV]
    clear hT hE hO hin hV
    go_enter Try.func54, Try.ntmps54
    go_wp2_with fail
    refine hh.mono ?_
    clear hh
    rintro x w' ⟨rfl, rfl⟩
    go_wp2
    go_ret
    exact ⟨rfl, 0, rfl⟩

set_option maxRecDepth 100000 in
set_option maxHeartbeats 2000000 in
theorem refBefore_any (b tb : Nat) (nv dv : Value) (ns : List Nv) (ds : List Int) (es : List El) (e : Int) (w : World) (hT : RTr b w tb nv dv ns ds) (hE : Tells es ns ds) (hO : TreeOk es) (hl : es.length ≤ 4096) :
    Calls Try.prog 49 #[.pointer (some ⟨tb, 0, none⟩), .int .i64 e] w fun x w' => x = .returned (.int .i64 (beforeV es e)) ∧ ∃ n, w' = w.drewN n := by
  have hh := refIs_any b tb nv dv ns ds e w hT
  have hnl := hE.len.1
  by_cases hin : 0 ≤ e ∧ e < (ns.length : Int)
  · rw [decide_eq_true hin] at hh
    obtain ⟨k, rfl⟩ : ∃ k : Nat, e = (k : Int) := ⟨e.toNat, by omega⟩
    have hk : k < ns.length := by omega
    by_cases hk0 : k = 0
    · subst hk0
      obtain ⟨q, hq⟩ : ∃ q, es[0]? = some q := ⟨_, List.getElem?_eq_getElem (by omega)⟩
      have hV : beforeV es ((0 : Nat) : Int) = -1 := by rw [before_at hq, sibV_at hq, if_pos (hO.root q hq).1]
      rw [hV]
      clear hT hE hO hin hV hq
      go_enter Try.func49, Try.ntmps49
      go_wp2_with fail
      refine hh.mono ?_
      clear hh
      rintro x w' ⟨rfl, rfl⟩
      go_wp2
      go_ret
      exact ⟨rfl, 0, rfl⟩
    · obtain ⟨p, hp, hpk⟩ := par_lt hO (e := k) (by omega) (by omega)
      have HT : Hid (RTr b w tb nv dv ns ds) := hT
      have HE : Hid (Tells es ns ds) := hE
      obtain ⟨nk, hnk⟩ : ∃ n, ns[k]? = some n := ⟨_, List.getElem?_eq_getElem hk⟩
      obtain ⟨qk, hqk, hqnk, _⟩ := hE.at hnk
      have hpark : nk.nd.parent = (p : Int) := by rw [← hqnk, ← par_at hqk]; exact hp
      have HONE : Hid (kidsTo es p 1 = []) := kids_one hO (by omega) p
      have HNO : Hid (kidsTo es p k = [] → beforeV es (k : Int) = -1) := before_none hO (by omega) hp hpk
      have HSO : Hid (∀ (a : List Nat) (d : Nat), kidsTo es p k = a ++ [d] → beforeV es (k : Int) = (d : Int)) := fun a d h => before_some hO (by omega) hp hpk h
      have hkz : ((k : Int) == 0) = false := by simpa using hk0
      have hw1 : IntKind.i64.wrap ((k : Int) - 1) = (k : Int) - 1 := by rw [IntKind.wrap_i64]; omega
      obtain ⟨B, hB⟩ : ∃ B, beforeV es (k : Int) = B := ⟨_, rfl⟩
      rw [hB] at HNO ⊢
      simp only [hB] at HSO
      clear hT hE hO hB
      go_enter Try.func49, Try.ntmps49
      go_wp2_with fail
      refine hh.mono ?_
      clear hh
      rintro x w' ⟨rfl, rfl⟩
      go_wp2
      go_loopw [5] (fun y wr => ∃ i : Nat, y = .int .i64 i ∧ i < k ∧ kidsTo es p (i + 1) = kidsTo es p k ∧ ∃ n, wr = w'.drewN n) (fun y _ => (intOf y).toNat)
      case atStart => exact ⟨k - 1, by rw [show ((k - 1 : Nat) : Int) = (k : Int) - 1 by omega], by omega, by rw [show k - 1 + 1 = k by omega], 0, rfl⟩
      case round =>
        obtain ⟨i, rfl, hik, hks, m, rfl⟩ := hrel
        have HKS : Hid (_ = _) := hks
        clear hks
        by_cases hi0 : i = 0
        · subst hi0
          have hBv : B = -1 := HNO.out (by rw [← HKS.out]; exact HONE.out)
          subst hBv
          clear hw1 hkz
          go_wp2
          go_ret
          exact ⟨rfl, m, rfl⟩
        · have hipos : (0 : Int) < (i : Int) := by omega
          have hTr := HT.out
          obtain ⟨⟨c0, _⟩, _⟩ := blk2 hTr.blk
          obtain ⟨ni, hni⟩ : ∃ n, ns[i]? = some n := ⟨_, List.getElem?_eq_getElem (by omega)⟩
          obtain ⟨qi, hqi, hqn, _⟩ := HE.out.at hni
          have hpar : parentV es (i : Int) = ni.nd.parent := by rw [par_at hqi, hqn]
          have hnx := kids_next es p i
          rw [hpar, HKS.out] at hnx
          obtain ⟨g, c, rfl, hr1, hr2, x0, _⟩ := hTr.get hni
          obtain ⟨g', c', hgc, _, _, y0, _⟩ := hTr.get hnk
          cases hgc
          rw [hpark] at y0
          unfold maxLen at hr2
          have hin1 : (i : Int) < (ns.length : Int) := by omega
          have hkn1 : (k : Int) < (ns.length : Int) := by omega
          by_cases hpe : ni.nd.parent = (p : Int)
          · rw [if_pos hpe] at hnx
            have hBv : B = (i : Int) := HSO.out _ _ hnx
            subst hBv
            rw [hpe] at x0
            clear hTr hni hqi hqn hpar hnx hpe hnk hqk hqnk hpark hw1 hkz
            go_wp2
            go_quiet (fail)
            go_wp2
            go_ret
            exact ⟨rfl, _, by first | rfl | (simp; rfl)⟩
          · rw [if_neg hpe, List.append_nil] at hnx
            have HNX : Hid (_ = _) := hnx
            have hne : (ni.nd.parent == (p : Int)) = false := by simpa using hpe
            have hw2 : IntKind.i64.wrap ((i : Int) - 1) = (i : Int) - 1 := by rw [IntKind.wrap_i64]; omega
            generalize ni.nd.parent = pn at *
            clear hTr hni hqi hqn hpar hnx hnk hqk hqnk hpark hw1 hkz
            go_wp2
            go_quiet (fail)
            go_wp2
            exact ⟨⟨i - 1, by rw [show ((i - 1 : Nat) : Int) = (i : Int) - 1 by omega], by omega, by rw [show i - 1 + 1 = i by omega]; exact HNX.out.symm, _, by first | rfl | (simp; rfl)⟩, by simp [intOf]; omega⟩
  · rw [decide_eq_false hin] at hh
    have hV : beforeV es e = -1 := by unfold beforeV; rw [if_neg (fun h => hin (by rw [← hnl] at h; exact h))]
    rw [hV]
    clear hT hE hO hin hV
    go_enter Try.func49, Try.ntmps49
    go_wp2_with fail
    refine hh.mono ?_
    clear hh
    rintro x w' ⟨rfl, rfl⟩
    go_wp2
    go_ret
    exact ⟨rfl, 0, rfl⟩

end Go.Proofs.Ytiaikkbmgnaikaa.Dm
