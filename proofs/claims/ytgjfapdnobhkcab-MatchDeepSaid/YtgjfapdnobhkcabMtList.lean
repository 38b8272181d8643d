/- package match: list: what is asked at a spot, found again or made anew. -/
import Derived.Test.YtgjfapdnobhkcabMtMap
namespace Go.Proofs.Ytgjfapdnobhkcab.Mt
open Go Go.RowKit Dm

set_option maxRecDepth 100000 in
/-- The map of one that is asked: what it tells of a spot. -/
theorem map_look {E : Env} {γ : Ghost} {W : World} (hI : Inv E γ W) {A M : Nat} {s : Sel} {pv : Value} {f : Nat} (hA : γ A = some (.asked s pv f)) (hM : γ M = some (.mapr A)) {k j : Nat} {p : Pt} {q : Ps} (hp : s[k]? = some p) (hq : p.2.pss[j]? = some q) (hk : k < 50) (hj : j < 1099511627776) :
    (∀ n, (Instr.lookup 81 (.map (some M)) (.agg #[.int .i64 k, .int .i64 j]) true).run Try.prog (W.drewN n) = .ok (.tuple #[.slice none 0 0, .bool false]) (W.drewN n)) ∨
    (∃ B, γ B = some (.ptrs A k j) ∧ ∀ n, (Instr.lookup 81 (.map (some M)) (.agg #[.int .i64 k, .int .i64 j]) true).run Try.prog (W.drewN n) = .ok (.tuple #[wide B q.list.length, .bool true]) (W.drewN n)) := by
  obtain ⟨_, o, ho, s', pv', f', hA', ks, D, hO, hnd, h1, h2⟩ := hI.each M _ hM
  rw [hA] at hA'
  cases hA'
  have run : ∀ n, ∃ v ps, (Instr.lookup 81 (.map (some M)) (.agg #[.int .i64 k, .int .i64 j]) true).run Try.prog (W.drewN n) = .ok (.tuple #[v, .bool (Maps.has D (keyL k j))]) (W.drewN n) ∧ held v = some (D.atKey (keyL k j) (.held (.slice none 0 0)), ps) := fun n =>
    World.ownsMap.look_ok (MapObj.owns hO (W := W.drewN n) ho) spotKeyed Try.underlying81 (zeroPs _) (zd := .held (.slice none 0 0)) (zp := []) rfl (keyL_of (by omega) hj)
  have hk2 : ∀ {v ps d}, held v = some (d, ps) → d = .held v := fun h => by
    unfold held at h
    simp at h
    exact h.1.symm
  cases hh : Maps.has D (keyL k j) with
  | false =>
    left
    intro n
    obtain ⟨v, ps, hr, hv⟩ := run n
    rw [hh] at hr
    have e := hk2 hv
    rw [Maps.atKey_of_not_has hh] at e
    injection e with e
    rw [← e] at hr
    exact hr
  | true =>
    right
    obtain ⟨_, _, p', q', hp', hq', B, hB, hγ⟩ := h2 k j (h1 k j (by omega) hj hh)
    rw [hp] at hp'
    cases hp'
    rw [hq] at hq'
    cases hq'
    refine ⟨B, hγ, fun n => ?_⟩
    obtain ⟨v, ps, hr, hv⟩ := run n
    rw [hh] at hr
    have e := hk2 hv
    rw [hB] at e
    injection e with e
    rw [← e] at hr
    exact hr
set_option maxRecDepth 100000 in
/-- The map of one that is asked, with one spot more. -/
theorem map_put {E : Env} {γ : Ghost} {W : World} (hI : Inv E γ W) {A M B : Nat} {s : Sel} {pv : Value} {f : Nat} (hA : γ A = some (.asked s pv f)) (hM : γ M = some (.mapr A)) {k j : Nat} {p : Pt} {q : Ps} (hp : s[k]? = some p) (hq : p.2.pss[j]? = some q) (hk : k < 50) (hj : j < 1099511627776)
    (hB : γ B = some (.ptrs A k j)) {W0 : World} (hsame : W.heap[M]? = W0.heap[M]?) (hno : (Instr.lookup 81 (.map (some M)) (.agg #[.int .i64 k, .int .i64 j]) true).run Try.prog W0 = .ok (.tuple #[.slice none 0 0, .bool false]) W0) :
    ∃ W', (Instr.mapUpdate 81 (.map (some M)) (.agg #[.int .i64 k, .int .i64 j]) (wide B q.list.length)).run Try.prog W = .ok () W' ∧ Step E γ W γ W' := by
  obtain ⟨_, o, ho, s', pv', f', hA', ks, D, hO, hnd, h1, h2⟩ := hI.each M _ hM
  rw [hA] at hA'
  cases hA'
  have own := MapObj.owns hO (W := W) ho
  have hfew := spots_few hnd (fun k j h => ⟨(h2 k j h).1, (h2 k j h).2.1⟩)
  have kk := keyL_of (k := k) (j := j) (by omega) hj
  have hh : Maps.has D (keyL k j) = false := by
    obtain ⟨v, ps, hr, _⟩ := World.ownsMap.look_ok (MapObj.owns hO (W := W0) (hsame.symm.trans ho)) spotKeyed Try.underlying81 (zeroPs _) (zd := .held (.slice none 0 0)) (zp := []) rfl kk
    rw [hno] at hr
    injection hr with hr
    simp at hr
    exact hr.2
  obtain ⟨W', hrun, hown, hg⟩ := own.update spotKeyed Try.underlying81 (by unfold maxLen; omega) kk (d := .held (wide B q.list.length)) (ps := []) rfl
  obtain ⟨o', ho', hO'⟩ := owns_obj hown
  have lit := keyL_lit (k := k) (j := j) (by omega) hj
  refine ⟨W', hrun, hI.put hM hg ho' ⟨s, pv, f, hA, (k, j) :: ks, _, hO', ?_, fun k' j' hk' hj' h => ?_, fun k' j' h => ?_⟩⟩
  · rw [List.nodup_cons]
    refine ⟨fun hm => ?_, hnd⟩
    obtain ⟨_, _, _, _, _, _, B', hB', _⟩ := h2 k j hm
    rw [Maps.atKey_of_not_has hh] at hB'
    injection hB' with e
    simp [wide] at e
  · by_cases e : keyL k' j' = keyL k j
    · obtain ⟨rfl, rfl⟩ := keyL_inj hk' hj' (by omega) hj e
      exact List.mem_cons_self ..
    · rw [Maps.has_put_other e] at h
      exact List.mem_cons_of_mem _ (h1 k' j' hk' hj' h)
  · rcases List.mem_cons.1 h with e | h
    · cases e
      exact ⟨hk, hj, p, q, hp, hq, B, Maps.atKey_put_same own.isMap lit _ _, hB⟩
    · obtain ⟨a1, a2, p', q', b1, b2, B', b3, b4⟩ := h2 k' j' h
      refine ⟨a1, a2, p', q', b1, b2, B', ?_, b4⟩
      rw [Maps.atKey_put_other (fun e => ?_)]
      · exact b3
      · obtain ⟨rfl, rfl⟩ := keyL_inj (by omega) a2 (by omega) hj e
        rw [Maps.atKey_of_not_has hh] at b3
        injection b3 with e
        simp [wide] at e

theorem eqlNilMap (w : World) (r : Option Nat) : (binOp .eql 81 (.map r) (.map none)).run Try.prog w = .ok (.bool r.isNone) w := by
  simp only [binOp]
  have h : ∀ d, (Op.equalIn (d + 1) 81 (.map r) (.map none)).run Try.prog w = .ok r.isNone w := fun d => by
    cases r <;> simp [Op.equalIn, run_underlying Try.underlying81]
  simp [show Op.equal 81 (.map r) (.map none) = Op.equalIn (9999 + 1) 81 (.map r) (.map none) from rfl, h 9999]
/-- A map for one that had none. -/
theorem step_map {E : Env} {γ : Ghost} {W : World} (hI : Inv E γ W) {A : Nat} {s : Sel} {pv fv : Value} {f : Nat} (hA : γ A = some (.asked s pv f)) (kA : Blk W A 83 [ptrV E.tb, pv, fv, .map none]) :
    Step E γ W (addG γ W.heap.size (.mapr A)) ((W.alloc (.map #[] 0)).setCell ⟨A, 3, none⟩ (.map (some W.heap.size))) ∧
      Blk ((W.alloc (.map #[] 0)).setCell ⟨A, 3, none⟩ (.map (some W.heap.size))) A 83 [ptrV E.tb, pv, fv, .map (some W.heap.size)] := by
  obtain ⟨hP, hf, fv', lv', hcs, hfv, _⟩ := (hI.each A _ hA).2.choose_spec.2
  have ho := (hI.each A _ hA).2.choose_spec.1
  rw [hcs, show W.heap[A]? = _ from kA] at ho
  simp at ho
  obtain ⟨rfl, _⟩ := ho
  have h1 : Step E γ W (addG γ W.heap.size (.mapr A)) (W.alloc (.map #[] 0)) := by
    obtain ⟨o, ho, hO⟩ := owns_obj (World.ownsMap_made W Try.prog 110 held)
    refine hI.add (Nat.le_refl _) ((Below.refl _ W).alloc (Nat.le_refl _) _) ho ⟨s, pv, f, addG_mono hI (Nat.le_refl _) _ _ _ hA, [], _, hO, List.nodup_nil, fun k j _ _ h => ?_, fun k j h => by cases h⟩
    simp [Maps.has] at h
  have hA1 : addG γ W.heap.size (.mapr A) A = some (.asked s pv f) := addG_mono hI (Nat.le_refl _) _ _ _ hA
  have k1 := blk_put (blk_alloc kA (.map #[] 0)) 3 (.map (some W.heap.size))
  refine ⟨h1.trans (h1.inv.put hA1 (grown_set _ _ _ _) k1 ⟨hP, hf, _, _, rfl, ?_, .inr ⟨_, rfl, addG_same _ _ _⟩⟩), k1⟩
  rcases hfv with h | ⟨F, h, hF⟩
  · exact .inl h
  · exact .inr ⟨F, h, addG_mono hI (Nat.le_refl _) _ _ _ hF⟩

end Go.Proofs.Ytgjfapdnobhkcab.Mt
