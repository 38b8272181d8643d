/- The document's own tree: Children. -/
import Derived.Test.YtopmahiapejkgaaDmRefA
import Derived.Test.YtopmahiapejkgaaDmGb
namespace Go.Proofs.Ytopmahiapejkgaa.Dm
open Go Go.RowKit

theorem sorted_ext : ∀ {a b : List Nat}, a.Pairwise (· < ·) → b.Pairwise (· < ·) → (∀ x, x ∈ a ↔ x ∈ b) → a = b
  | [], [], _, _, _ => rfl
  | [], y :: b, _, _, h => absurd ((h y).2 (List.mem_cons_self ..)) (by simp)
  | x :: a, [], _, _, h => absurd ((h x).1 (List.mem_cons_self ..)) (by simp)
  | x :: a, y :: b, ha, hb, h => by
    obtain ⟨ha1, ha2⟩ := List.pairwise_cons.1 ha
    obtain ⟨hb1, hb2⟩ := List.pairwise_cons.1 hb
    have hxy : x = y := by
      rcases List.mem_cons.1 ((h x).1 (List.mem_cons_self ..)) with e | e
      · exact e
      · rcases List.mem_cons.1 ((h y).2 (List.mem_cons_self ..)) with e' | e'
        · exact e'.symm
        · have := hb1 x e
          have := ha1 y e'
          omega
    subst hxy
    rw [sorted_ext ha2 hb2 (fun z => ?_)]
    constructor
    · intro hz
      rcases List.mem_cons.1 ((h z).1 (List.mem_cons_of_mem _ hz)) with e | e
      · have := ha1 z hz
        omega
      · exact e
    · intro hz
      rcases List.mem_cons.1 ((h z).2 (List.mem_cons_of_mem _ hz)) with e | e
      · have := hb1 z hz
        omega
      · exact e
/-- The children of e among the first k. -/
def kidsTo (es : List El) (e k : Nat) : List Nat := (List.range k).filter fun i => parentV es (i : Int) == (e : Int)
theorem kids_next (es : List El) (e k : Nat) : kidsTo es e (k + 1) = kidsTo es e k ++ (if parentV es (k : Int) = (e : Int) then [k] else []) := by
  unfold kidsTo
  rw [List.range_succ, List.filter_append, List.filter_cons, List.filter_nil]
  congr 1
  by_cases h : parentV es (k : Int) = (e : Int)
  · rw [if_pos h, if_pos (by rw [h]; simp)]
  · rw [if_neg h, if_neg (by simpa using h)]
theorem kids_all {es : List El} (hO : TreeOk es) {e : Nat} {q : El} (hq : es[e]? = some q) : kidsTo es e es.length = q.ch := by
  refine sorted_ext (List.pairwise_lt_range.filter _) (hO.rise e q hq) (fun x => ?_)
  unfold kidsTo
  rw [List.mem_filter, List.mem_range]
  constructor
  · rintro ⟨h1, h2⟩
    have h2 : parentV es (x : Int) = (e : Int) := by simpa using h2
    by_cases h0 : x = 0
    · subst h0
      rw [par_root hO h1] at h2
      omega
    · obtain ⟨p, hp, _, hc⟩ := ch_of_par hO h1 (by omega)
      obtain rfl : p = e := by omega
      unfold chOf at hc
      rwa [children_at hq] at hc
  · intro hx
    have hx' : x ∈ chOf es e := by unfold chOf; rw [children_at hq]; exact hx
    have := ch_mem hO (List.getElem?_eq_some_iff.1 hq).1 hx'
    obtain ⟨i, hi⟩ := List.mem_iff_getElem?.1 hx
    exact ⟨this.2, by rw [parent_of hO hq hi]; simp⟩
theorem kids_none {es : List El} (hO : TreeOk es) {e k : Nat} (hk : k ≤ e + 1) (he : e < es.length) : kidsTo es e k = [] := by
  unfold kidsTo
  rw [List.filter_eq_nil_iff]
  intro i hi
  have hi := List.mem_range.1 hi
  by_cases h0 : i = 0
  · subst h0
    rw [par_root hO (by omega)]
    simp
  · obtain ⟨p, hp, hpi⟩ := par_lt hO (e := i) (by omega) (by omega)
    rw [hp]
    simp
    omega
theorem kids_len (es : List El) (e k : Nat) : (kidsTo es e k).length ≤ k := by
  have := List.length_filter_le (fun i : Nat => parentV es (i : Int) == (e : Int)) (List.range k)
  simpa [kidsTo] using this

set_option maxRecDepth 100000 in
set_option maxHeartbeats 2000000 in
theorem refChildren_any (b tb : Nat) (nv dv : Value) (ns : List Nv) (ds : List Int) (es : List El) (e : Int) (w : World) (hT : RTr b w tb nv dv ns ds) (hE : Tells es ns ds) (hO : TreeOk es) (hl : es.length ≤ 4096) :
    Calls Try.prog 15 #[.pointer (some ⟨tb, 0, none⟩), .int .i64 e] w fun x w' => ∃ v', x = .returned v' ∧ IntRow w.heap.size w' v' (chI (childrenV es e)) ∧ Below w.heap.size w w' := by
  obtain ⟨j0, hj, hx0, hx1, hx2⟩ := info_parts infoInt
  have hnl := hE.len.1
  have HT : Hid (RTr b w tb nv dv ns ds) := hT
  have HE : Hid (Tells es ns ds) := hE
  have HO : Hid (TreeOk es) := hO
  by_cases hin : 0 ≤ e ∧ e < (ns.length : Int)
  · obtain ⟨k, rfl⟩ : ∃ k : Nat, e = (k : Int) := ⟨e.toNat, by omega⟩
    have hk : k < ns.length := by omega
    obtain ⟨q, hq⟩ : ∃ q, es[k]? = some q := ⟨_, List.getElem?_eq_getElem (by omega)⟩
    rw [children_at hq]
    have hw1 : IntKind.i64.wrap ((k : Int) + 1) = (k : Int) + 1 := by rw [IntKind.wrap_i64]; omega
    have hst := kids_none hO (e := k) (k := k + 1) (Nat.le_refl _) (by omega)
    have HST : Hid (_ = _) := hst
    have hfin := kids_all hO hq
    have HFIN : Hid (_ = _) := hfin
    clear hT hE hO hst hfin
    go_enter Try.func15, Try.ntmps15
    go_wp2
    go_loopw [5, 6] (fun x y wr => ∃ i : Nat, y = .int .i64 i ∧ k < i ∧ i ≤ ns.length ∧ IntRow w.heap.size wr x (chI (kidsTo es k i)) ∧ Below w.heap.size w wr) (fun _ y _ => ns.length - (intOf y).toNat)
    case atStart => exact ⟨k + 1, by go_num, by omega, by omega, by rw [HST.out]; exact World.ownsRow_nil _ _ _ _, Below.refl _ _⟩
    case round =>
      obtain ⟨i, rfl, hki, hin', hrow, hb⟩ := hrel
      have hTr := HT.out.next hb
      have hh := refIs_any b tb nv dv ns ds (k : Int) _ hTr
      rw [decide_eq_true (by omega)] at hh
      obtain ⟨⟨c0, _⟩, _⟩ := blk2 hTr.blk
      have hkl := kids_len es k i
      unfold IntRow at hrow
      rw [chI_len] at hrow
      obtain ⟨px, cx, rfl⟩ := owns_form hrow
      have HR : Hid (World.ownsRow _ w.heap.size 3 1 (.slice px (kidsTo es k i).length cx) (kidsTo es k i).length ((chI (kidsTo es k i)).map (Value.int .i64))) := hrow
      by_cases hlt : i < ns.length
      · have hii : (i : Int) < (ns.length : Int) := by omega
        obtain ⟨n, hn⟩ : ∃ n, ns[i]? = some n := ⟨_, List.getElem?_eq_getElem hlt⟩
        obtain ⟨qi, hqi, hqn, _⟩ := HE.out.at hn
        have hpar : parentV es (i : Int) = n.nd.parent := by rw [par_at hqi, hqn]
        have hnx := kids_next es k i
        rw [hpar] at hnx
        obtain ⟨g, c, rfl, hr1, hr2, x0, _⟩ := hTr.get hn
        unfold maxLen at hr2
        have hs := hb.size
        by_cases hpk : n.nd.parent = (k : Int)
        · rw [if_pos hpk] at hnx
          have HNX : Hid (_ = _) := hnx
          rw [hpk] at x0
          clear hTr hn hqi hqn hpar hnx hrow hpk
          go_wp2_with fail
          refine hh.mono ?_
          clear hh
          rintro x w' ⟨rfl, rfl⟩
          go_wp2_with (at_builtin; refine wpList_append_own _ rfl _ _ 37 rfl w.heap.size 3 j0 (.int .i64 0) 1 8 Try.underlying37 hj hx0 hx1 hx2 rfl (by decide) _ _ _ rfl (World.ownsRow.alloc HR.out _) ⟨w'.heap.size, 0, none⟩ 1 1 [.int .i64 (i : Int)] rfl rfl (cells_plain _ [_] _) (fun u hu => by simp at hu; subst hu; rfl) (by unfold maxLen; omega) (by omega) (by simp; omega) ?_; intro v2 w2 hown2 hgrow2 hnil2; obtain ⟨g9, c9, rfl⟩ := shape_of hown2)
          have b2 : Below w.heap.size w w2 := (hb.alloc hs _).grown hgrow2 (by simp; omega) (fun r e => (owns_lt HR.out e).1)
          refine ⟨⟨i + 1, by go_num, by omega, by omega, ?_, b2⟩, by simp [intOf]; omega⟩
          rw [HNX.out]
          unfold IntRow
          rw [chI_len, List.length_append, List.length_singleton]
          have e1 : (chI (kidsTo es k i ++ [i])).map (Value.int .i64) = (chI (kidsTo es k i)).map (Value.int .i64) ++ [.int .i64 (i : Int)] := by simp [chI]
          rw [e1]
          exact hown2
        · rw [if_neg hpk, List.append_nil] at hnx
          have HNX : Hid (_ = _) := hnx
          have hne : (n.nd.parent == (k : Int)) = false := by simpa using hpk
          generalize n.nd.parent = pn at *
          clear hTr hn hqi hqn hpar hnx hrow
          go_wp2_with fail
          refine hh.mono ?_
          clear hh
          rintro x w' ⟨rfl, rfl⟩
          go_wp2
          refine ⟨⟨i + 1, by go_num, by omega, by omega, ?_, hb⟩, by simp [intOf]; omega⟩
          rw [HNX.out]
          unfold IntRow
          rw [chI_len]
          exact HR.out
      · have hii : ¬ (i : Int) < (ns.length : Int) := by omega
        obtain rfl : i = ns.length := by omega
        obtain ⟨⟨pn, cn, rfl⟩, _⟩ := hTr.form
        have hF : kidsTo es k ns.length = q.ch := by rw [hnl]; exact HFIN.out
        have HF : Hid (_ = _) := hF
        clear hTr hrow hF
        go_wp2_with fail
        refine hh.mono ?_
        clear hh
        rintro x w' ⟨rfl, rfl⟩
        go_wp2
        go_ret
        refine ⟨_, rfl, ?_, hb⟩
        rw [← HF.out]
        unfold IntRow
        rw [chI_len]
        have h9 := HR.out
        rw [hnl] at h9 ⊢
        exact h9
  · have hh := refIs_any b tb nv dv ns ds e w hT
    rw [decide_eq_false hin] at hh
    have hV : childrenV es e = [] := by unfold childrenV; rw [elAt_no (fun h => hin (by rw [← hnl] at h; exact h))]; rfl
    rw [hV]
    clear hT hE hO hin hV
    go_enter Try.func15, Try.ntmps15
    go_wp2
    go_loopw [5, 6] (fun x y wr => x = .slice none 0 0 ∧ (∃ i, y = .int .i64 i) ∧ wr = w) (fun _ _ _ => 0)
    case atStart => exact ⟨rfl, ⟨_, rfl⟩, rfl⟩
    case round =>
      obtain ⟨rfl, ⟨i, rfl⟩, rfl⟩ := hrel
      go_wp2_with fail
      refine hh.mono ?_
      clear hh
      rintro x w' ⟨rfl, rfl⟩
      go_wp2
      go_ret
      exact ⟨_, rfl, World.ownsRow_nil _ _ _ _, Below.refl _ _⟩

end Go.Proofs.Ytopmahiapejkgaa.Dm
