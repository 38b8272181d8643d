/- Comments in bytes; an operation under a guard that holds, as if it had none. -/
import Derived.Test.YtaecamnlimlpkaaDoorTkApp
namespace Go.Proofs.YtaecamnlimlpkaaDoor
open Go Go.RowKit Go.Shelf

/-- An operation whose guard holds is walked as if it had none. -/
theorem wpList_unguard {P : Program} {ops : Array Oper} {Q : Exit → Act → World → Prop} {a : Act} {w : World} {rest : List Oper} {o : Oper} (hw : Region.wanted o (yielded ops a.tmps) = true) (h : wpList P ops Q ({ o with guard := none } :: rest) a w) : wpList P ops Q (o :: rest) a w := by
  unfold wpList at h ⊢
  rw [if_pos hw]
  rw [if_pos (by simp [Region.wanted])] at h
  exact h

theorem owns_mono {w : World} {base base' : Nat} {e : TypeId} {size : Nat} {v : Value} {n : Nat} {xs : List Value} (h : w.ownsRow base e size v n xs) (hb : base' ≤ base) : w.ownsRow base' e size v n xs :=
  ⟨h.1, h.2.imp id fun ⟨g, cap, cur, e1, h1, r⟩ => ⟨g, cap, cur, e1, Nat.le_trans hb h1, r⟩⟩
/-- Nothing appended: the slice stays as it is. -/
theorem wpList_append_zero {P : Program} (w : World) {ops : Array Oper} {rest : List Oper} {o : Oper} {a : Act} {Q : Exit → Act → World → Prop} (hgd : o.guard = none) (s x : Operand) (t : TypeId)
    (ho : o.op = .call { callee := .builtin .append, args := #[s, x], argTypes := #[t, t] })
    (e : TypeId) (i : TypeInfo) (ht : P.underlying t = some (.slice e)) (hi : P.info? e = some i)
    (b : Addr) (n c : Nat) (hs : a.eval s = .slice (some b) n c) (hnc : n ≤ c) (p : Option Addr) (c' : Nat) (hx : a.eval x = .slice p 0 c')
    (h : wpList P ops Q rest (a.put o.dst (.slice (some b) n c)) w) : wpList P ops Q (o :: rest) a w := by
  refine wpList_plain hgd fun K hK => ?_
  have hrun : (Builtin.append_ #[t, t] o.type #[.slice (some b) n c, .slice p 0 c']).run P w = .ok (.slice (some b) n c) w := by
    cases p <;> simp [Builtin.append_, run_underlying ht, sizeOf, typeInfo, hi, Builtin.lenOf, Builtin.firstCells, hnc, storeCells, loadCells, loadCellsFrom]
  unfold Oper.wp
  simp [execOp, ho, resolve, invoke, builtin, hs, hx, hrun, Result.andThen]
  exact hK _ _ h
/-- A text's bytes appended onto a full slice. -/
theorem wpList_append_str_grows {P : Program} (w : World) {ops : Array Oper} {rest : List Oper} {o : Oper} {a : Act} {Q : Exit → Act → World → Prop} (hgd : o.guard = none) (sl x : Operand) (t u : TypeId)
    (ho : o.op = .call { callee := .builtin .append, args := #[sl, x], argTypes := #[t, u] })
    (e : TypeId) (i : TypeInfo) (ht : P.underlying t = some (.slice e)) (hu : P.underlying u = some .string) (hi : P.info? e = some i) (hz : i.zero = some (.int .u8 0)) (hsize : i.size = 1) (hby : i.bytes = 1)
    (b : Addr) (n cap : Nat) (olds : List Value) (hs : a.eval sl = .slice (some b) n cap) (hlo : olds.length = n) (holds : ∀ j v, olds[j]? = some v → w.cell? (b.add j) = some v) (s : ByteArray) (hx : a.eval x = .string s)
    (hfull : cap < n + s.size) (h63 : n + s.size ≤ maxLen) (hbytes : n + s.size ≤ 140737488355328)
    (h : ∀ v' w', w'.ownsRow w.heap.size e 1 v' (n + s.size) (olds ++ Lib.strCells s) → w.grownBy w' none → wpList P ops Q rest (a.put o.dst v') w') : wpList P ops Q (o :: rest) a w := by
  refine wpList_plain hgd fun K hK => ?_
  have hr := Lib.run_append_grow_string (P := P) w t u o.type e i (.int .u8 0) ht hu hi hz b n cap olds (by rw [hsize]; omega) holds s hfull (by unfold maxLen at h63; omega) (by rw [hby]; exact growslice_fits hfull (by omega))
  have hge := grownCap_ge w (n + s.size) cap e
  have hcm2 : grownCap w (n + s.size) cap e ≤ maxLen := grownCap_le_maxLen w (n + s.size) cap e h63
  have hlen : (olds ++ Lib.strCells s).length = (n + s.size) * 1 := by rw [List.length_append, hlo, Lib.strCells_length, Nat.mul_one]
  unfold Oper.wp execOp
  simp only [ho, resolve, invoke, builtin, Sem.run_bind, Sem.run_pure, Result.andThen_ok, List.map_toArray, List.map_cons, List.map_nil, hs, hx, hr]
  refine hK _ _ (h _ _ ⟨hlen, .inr ⟨w.heap.size, _, _, rfl, Nat.le_refl _, heap_alloc_new w.drew _, hge, hcm2, ?_, ?_⟩⟩ ⟨rfl, rfl, rfl, by simp, fun k hk _ => heap_alloc_old w.drew _ hk⟩)
  · have hz1 : (Value.int IntKind.u8 0).cells.size = 1 := rfl
    simp only [Array.size_append, List.size_toArray, size_zeroCells, hz1, hlo, Lib.strCells_length]
    omega
  · simp only [Array.toList_append, List.append_assoc]
    rw [← List.append_assoc, ← hlen]
    exact List.take_left

/-! ### what comes out around a comment -/
theorem prep_star {b : List UInt8} (h : ∀ u ∈ b, u.toNat ≠ 42 ∧ u.toNat ≠ 47) : ∀ c ∈ prep (ipts b), c ≠ 42 := prep_free (by decide) (by decide) fun u hu => (h u hu).1
theorem prep_two (r : List UInt8) : prep (ipts (47 :: 42 :: r)) = 47 :: 42 :: prep (ipts r) := by
  rw [ipts_plain1 (by decide), ipts_plain1 (by decide), prep_cons (by decide) (by decide) (by decide), prep_cons (by decide) (by decide) (by decide)]
  rfl
theorem tks_com_shut {b : List UInt8} (h : ∀ u ∈ b, u.toNat ≠ 42 ∧ u.toNat ≠ 47) : tksOf (47 :: 42 :: (b ++ [42, 47])) = [] := by
  unfold tksOf
  rw [prep_two, prep_semi (c := 42) (by decide) (by decide) (by decide) (by decide) (by decide)]
  have e : prep (ipts [47]) = [47] := prep_ints [47] (by decide)
  rw [e]
  exact (toks_comments nvOf (a := []) (fun _ hc => by cases hc) (prep_star h)).1
theorem tks_com_open {a b : List UInt8} (ha : ∀ u ∈ a, u.toNat ≠ 34 ∧ u.toNat ≠ 39 ∧ u.toNat ≠ 47 ∧ u.toNat ≠ 92) (h : ∀ u ∈ b, u.toNat ≠ 42 ∧ u.toNat ≠ 47) : tksOf (a ++ 47 :: 42 :: b) = tksOf a := by
  unfold tksOf
  rw [prep_semi (c := 47) (by decide) (by decide) (by decide) (by decide) (by decide), ipts_plain1 (c := 42) (by decide), prep_cons (by decide) (by decide) (by decide)]
  exact (toks_comments nvOf (prep_plainly ha) (prep_star h)).2.1
theorem tks_com_all {a b : List UInt8} (ha : ∀ u ∈ a, u.toNat ≠ 34 ∧ u.toNat ≠ 39 ∧ u.toNat ≠ 47 ∧ u.toNat ≠ 92) (h : ∀ u ∈ b, u.toNat ≠ 42 ∧ u.toNat ≠ 47) : tksOf (a ++ 47 :: 42 :: (b ++ [42, 47, 32])) = tksOf a ++ [⟨9, [], 0, false, 0⟩] := by
  unfold tksOf
  rw [prep_semi (c := 47) (by decide) (by decide) (by decide) (by decide) (by decide), ipts_plain1 (c := 42) (by decide), prep_cons (by decide) (by decide) (by decide), prep_semi (c := 42) (by decide) (by decide) (by decide) (by decide) (by decide)]
  have e : prep (ipts [47, 32]) = [47, 32] := prep_ints [47, 32] (by decide)
  rw [e]
  exact (toks_comments nvOf (prep_plainly ha) (prep_star h)).2.2

end Go.Proofs.YtaecamnlimlpkaaDoor
