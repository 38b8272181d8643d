/- Two compounds in one: plain facts; append(append(nil, x...), y...) from whatever slices; a compound whose lists the call made. -/
import Derived.Test.YtchfnnoabejlpaaMtSame
import Derived.Test.YtchfnnoabejlpaaRowApp
import Derived.Lib.SmallJoins
namespace Go.Proofs.Ytchfnnoabejlpaa.Mt
open Go.Proofs.Ytchfnnoabejlpaa.Tre
open Go Go.RowKit Dm Go.Proofs.Ytchfnnoabejlpaa.Wg

def bothC (a b : Cp) : Cp := .mk (a.tag ++ b.tag) (a.ids ++ b.ids) (a.classes ++ b.classes) (a.attrs ++ b.attrs) (a.pss ++ b.pss)
theorem empty_app (x : ByteArray) : (⟨#[]⟩ : ByteArray) ++ x = x := by
  apply ByteArray.ext
  simp
theorem app_empty (x : ByteArray) : x ++ (⟨#[]⟩ : ByteArray) = x := by
  apply ByteArray.ext
  simp
theorem named_both (n : Nd) (a b : Cp) (h : a.tag = ⟨#[]⟩ ∨ b.tag = ⟨#[]⟩) : namedV n (bothC a b) = (namedV n a && namedV n b) := by
  have ht : (decide ((bothC a b).tag = ⟨#[]⟩) || decide ((bothC a b).tag = n.tag)) = ((decide (a.tag = ⟨#[]⟩) || decide (a.tag = n.tag)) && (decide (b.tag = ⟨#[]⟩) || decide (b.tag = n.tag))) := by
    show (decide (a.tag ++ b.tag = ⟨#[]⟩) || decide (a.tag ++ b.tag = n.tag)) = _
    rcases h with h | h
    · rw [h, empty_app]; simp
    · rw [h, app_empty]; simp
  unfold namedV
  rw [ht]
  obtain ⟨t1, i1, k1, a1, p1⟩ := a
  obtain ⟨t2, i2, k2, a2, p2⟩ := b
  simp only [bothC, Cp.tag, Cp.ids, Cp.classes, Cp.attrs, List.all_append]
  ac_rfl
theorem cmp_not_deep (es : List El) (k : Nat) (hk : k < es.length) (c : Cp) (hd : deepC 8 c = false) : compoundV es (k : Int) c = compV (anyV es 8) es c k := by
  rw [← same_cmp es k hk c]
  unfold Rf.compoundV
  rw [deepC_cut, hd, cp_cut _ 8 (any_cut es 8)]
  rfl
theorem both_cmp (es : List El) (k : Nat) (hk : k < es.length) (a b : Cp) (h : a.tag = ⟨#[]⟩ ∨ b.tag = ⟨#[]⟩) (ha : deepC 8 a = false) (hb : deepC 8 b = false) : compoundV es (k : Int) (bothC a b) = (compoundV es (k : Int) a && compoundV es (k : Int) b) := by
  have hc : deepC 8 (bothC a b) = false := by
    obtain ⟨t1, i1, k1, a1, p1⟩ := a
    obtain ⟨t2, i2, k2, a2, p2⟩ := b
    have ha2 : p1.any (fun q => isList q && q.list.any (deepS 7)) = false := ha
    have hb2 : p2.any (fun q => isList q && q.list.any (deepS 7)) = false := hb
    show (p1 ++ p2).any (fun q => isList q && q.list.any (deepS 7)) = false
    rw [List.any_append, ha2, hb2]
    rfl
  rw [cmp_not_deep es k hk _ ha, cmp_not_deep es k hk _ hb, cmp_not_deep es k hk _ hc]
  unfold compV
  rw [named_both _ a b h]
  obtain ⟨t1, i1, k1, a1, p1⟩ := a
  obtain ⟨t2, i2, k2, a2, p2⟩ := b
  simp only [bothC, Cp.pss, List.all_append]
  ac_rfl

/-! ### appends -/
theorem info_ofB {e : TypeId} {z : Value} {s b : Nat} (h : (Try.prog.info? e).map (fun i => (i.zero, i.size, i.bytes)) = some (some z, s, b)) : ∃ i, Try.prog.info? e = some i ∧ i.zero = some z ∧ i.size = s ∧ i.bytes = b := by
  obtain ⟨i, hi, he⟩ := Option.map_eq_some_iff.1 h
  simp only [Prod.mk.injEq] at he
  exact ⟨i, hi, he.1, he.2.1, he.2.2⟩
theorem infoStrB : (Try.prog.info? 9).map (fun i => (i.zero, i.size, i.bytes)) = some (some (.string ⟨#[]⟩), 1, 16) := by kernel_rfl
theorem infoAtB : (Try.prog.info? 63).map (fun i => (i.zero, i.size, i.bytes)) = some (some (.agg #[.string ⟨#[]⟩, .int .i64 0, .string ⟨#[]⟩]), 3, 40) := by kernel_rfl
theorem infoPsB : (Try.prog.info? 56).map (fun i => (i.zero, i.size, i.bytes)) = some (some (.agg #[.int .i64 0, .int .i64 0, .int .i64 0, .slice none 0 0]), 4, 48) := by kernel_rfl
theorem strC_one (c : List Value) (x : ByteArray) (h : StrC c x) : ∀ u ∈ c, u.oneCell' = true := by
  rw [show c = _ from h]
  intro u hu
  rw [List.mem_singleton.1 hu]
  rfl
theorem atC_one (c : List Value) (x : At) (h : AtC c x) : ∀ u ∈ c, u.oneCell' = true := by
  rw [show c = _ from h]
  intro u hu
  simp only [List.mem_cons, List.not_mem_nil, or_false] at hu
  rcases hu with rfl | rfl | rfl <;> rfl
theorem psC_one {d n : Nat} {W : World} (c : List Value) (x : Ps) (h : PsC (SelsR d n W) c x) : ∀ u ∈ c, u.oneCell' = true := by
  obtain ⟨y, rfl, hy⟩ := h
  obtain ⟨p, m, k, rfl⟩ := hy.form
  intro u hu
  simp only [List.mem_cons, List.not_mem_nil, or_false] at hu
  rcases hu with rfl | rfl | rfl | rfl <;> rfl
/-- append(append(nil, x...), y...), at most ten things. -/
theorem app_two {α : Type} {t e : TypeId} {z : Value} {sz bytes : Nat} (ht : Try.prog.underlying t = some (.slice e)) (hinf : (Try.prog.info? e).map (fun i => (i.zero, i.size, i.bytes)) = some (some z, sz, bytes)) (hzs : z.cells.size = sz) (hsz : 0 < sz) (hby : bytes ≤ 1000)
    {T : List Value → α → Prop} (h1 : ∀ c x, T c x → ∀ u ∈ c, u.oneCell' = true) {n : Nat} {w W : World} (hb : Below n w W) {x y : Value} {l m : List α} (hx : Wg.RowT sz T n w x l) (hy : Wg.RowT sz T n w y m) (hn : n ≤ W.heap.size) (hl : l.length ≤ 5) (hm : m.length ≤ 5) :
    ∃ v1 W1 v2 W2, (Builtin.append_ #[t, t] t #[.slice none 0 0, x]).run Try.prog W = .ok v1 W1 ∧ (Builtin.append_ #[t, t] t #[v1, y]).run Try.prog W1 = .ok v2 W2 ∧ OwnT W.heap.size e sz T W2 v2 (l ++ m) ∧ Below W.heap.size W W1 ∧ Below W.heap.size W W2 := by
  obtain ⟨i, hi, hz0, hz1, hz2⟩ := info_ofB hinf
  have hB : ∀ k, k ≤ 10 → k * bytes ≤ 140737488355328 := fun k hk => Nat.le_trans (Nat.mul_le_mul hk hby) (by decide)
  obtain ⟨v1, W1, r1, o1, g1, _⟩ := OwnT.app (W := W) (base := W.heap.size) ht hi hz0 hz1 hz2 hzs hsz h1 (OwnT.nil _ _ _ _ _) (Wg.RowT.below hx hb (fun _ _ h => h)) (by unfold maxLen; simp; omega) (hB _ (by simp; omega)) (Nat.le_refl _)
  have b1 : Below W.heap.size W W1 := (Below.refl _ _).grown g1 (Nat.le_refl _) (fun r e => by cases e)
  rw [List.nil_append] at o1
  obtain ⟨v2, W2, r2, o2, g2, _⟩ := OwnT.app (W := W1) (base := W.heap.size) ht hi hz0 hz1 hz2 hzs hsz h1 o1 (Wg.RowT.below hy (hb.trans (b1.mono hn)) (fun _ _ h => h)) (by unfold maxLen; omega) (hB _ (by omega)) b1.size
  exact ⟨v1, W1, v2, W2, r1, r2, o2, b1, b1.grown g2 b1.size (fun r e => (o1.lt e).1)⟩
/-- append in a region that draws, where its run is known. -/
theorem stepB {P : Program} {ops : Array Oper} {Q : Exit → Act → World → Prop} {o : Oper} {a : Act} {w w' : World} {K : Act → World → Prop} {E : Prop} (hgd : o.guard = none) (s x : Operand) (t : TypeId)
    (ho : o.op = .call { callee := .builtin .append, args := #[s, x], argTypes := #[t, t] }) {v xv v' : Value} (hs : a.eval s = v) (hx : a.eval x = xv) (hrun : (Builtin.append_ #[t, t] o.type #[v, xv]).run P w = .ok v' w')
    (h : K (a.put o.dst v') w') : if Region.wanted o (yielded ops a.tmps) = true then Oper.wp P o a w K Q else E := by
  have hw : Region.wanted o (yielded ops a.tmps) = true := by simp [Region.wanted, hgd]
  rw [if_pos hw]
  unfold Oper.wp
  simp [execOp, ho, resolve, invoke, builtin, hs, hx, hrun, Result.andThen]
  exact h

/-! ### what the call makes -/
/-- The call's own compound, in block B, and the lists that it made. -/
structure Own (B n : Nat) (w W : World) (tag : ByteArray) (i k a p : Value) (li lk : List ByteArray) (la : List At) (lp : List Ps) : Prop where
  low : Below B w W
  blk : Blk W B 40 [.string tag, i, k, a, p]
  oi : OwnT (B + 1) 9 1 StrC W i li
  ok : OwnT (B + 1) 9 1 StrC W k lk
  oa : OwnT (B + 1) 63 3 AtC W a la
  op : OwnT (B + 1) 56 4 (PsC (SelsR 10 n w)) W p lp
theorem ownT_kept {α : Type} {B : Nat} {e : TypeId} {sz : Nat} {T : List Value → α → Prop} {W X : World} {v : Value} {l : List α} (h : OwnT (B + 1) e sz T W v l) (hk : ∀ b, b ≠ B → b < W.heap.size → X.heap[b]? = W.heap[b]?) : OwnT (B + 1) e sz T X v l :=
  h.same (fun g hg => hk g (by have := (h.lt hg).1; omega) (h.lt hg).2) (fun _ _ h => h)
theorem ownT_le {α : Type} {b b' : Nat} {e : TypeId} {sz : Nat} {T : List Value → α → Prop} {W : World} {v : Value} {l : List α} (h : OwnT b e sz T W v l) (hb : b' ≤ b) : OwnT b' e sz T W v l := by
  obtain ⟨css, h1, h2⟩ := h
  exact ⟨css, Joins.ownsRow_le h1 hb, h2⟩
/-- A region's appends and its store. -/
theorem Own.put {B n : Nat} {w W W2 : World} {tag : ByteArray} {i k a p : Value} {li lk : List ByteArray} {la : List At} {lp : List Ps} (h : Own B n w W tag i k a p li lk la lp) (hb : Below W.heap.size W W2) (f : Nat) (u : Value) :
    Below B w (W2.setCell ⟨B, f, none⟩ u) ∧ Blk (W2.setCell ⟨B, f, none⟩ u) B 40 ([.string tag, i, k, a, p].set f u) ∧ (∀ b, b ≠ B → b < W.heap.size → (W2.setCell ⟨B, f, none⟩ u).heap[b]? = W.heap[b]?) ∧ ∀ b, b ≠ B → b < W2.heap.size → (W2.setCell ⟨B, f, none⟩ u).heap[b]? = W2.heap[b]? := by
  have g := grown_set W2 B f u
  have hBW := h.blk.lt
  have kk : ∀ b, b ≠ B → b < W2.heap.size → (W2.setCell ⟨B, f, none⟩ u).heap[b]? = W2.heap[b]? := fun b hne hlt => g.block b hlt (fun e => hne (by cases e; rfl))
  refine ⟨?_, blk_put (h.blk.below hb hBW) f u, fun b hne hlt => ?_, kk⟩
  · have h1 : Below B w W2 := h.low.trans (hb.mono (Nat.le_of_lt hBW))
    exact h1.grown g (Nat.le_trans (Nat.le_of_lt hBW) hb.size) (fun r e => by cases e; exact Nat.le_refl _)
  · rw [kk b hne (Nat.lt_of_lt_of_le hlt hb.size)]
    exact hb.block b hlt

theorem ids_step {B n : Nat} {w W W2 : World} {tag : ByteArray} {i k a p : Value} {li lk : List ByteArray} {la : List At} {lp : List Ps} (h : Own B n w W tag i k a p li lk la lp) (hb : Below W.heap.size W W2) {u : Value} {l : List ByteArray} (hu : OwnT W.heap.size 9 1 StrC W2 u l) : Own B n w (W2.setCell ⟨B, 1, none⟩ u) tag u k a p l lk la lp := by
  obtain ⟨q1, q2, q3, q4⟩ := h.put hb 1 u
  exact ⟨q1, q2, ownT_kept (ownT_le hu h.blk.lt) q4, ownT_kept h.ok q3, ownT_kept h.oa q3, ownT_kept h.op q3⟩
theorem cls_step {B n : Nat} {w W W2 : World} {tag : ByteArray} {i k a p : Value} {li lk : List ByteArray} {la : List At} {lp : List Ps} (h : Own B n w W tag i k a p li lk la lp) (hb : Below W.heap.size W W2) {u : Value} {l : List ByteArray} (hu : OwnT W.heap.size 9 1 StrC W2 u l) : Own B n w (W2.setCell ⟨B, 2, none⟩ u) tag i u a p li l la lp := by
  obtain ⟨q1, q2, q3, q4⟩ := h.put hb 2 u
  exact ⟨q1, q2, ownT_kept h.oi q3, ownT_kept (ownT_le hu h.blk.lt) q4, ownT_kept h.oa q3, ownT_kept h.op q3⟩
theorem ats_step {B n : Nat} {w W W2 : World} {tag : ByteArray} {i k a p : Value} {li lk : List ByteArray} {la : List At} {lp : List Ps} (h : Own B n w W tag i k a p li lk la lp) (hb : Below W.heap.size W W2) {u : Value} {l : List At} (hu : OwnT W.heap.size 63 3 AtC W2 u l) : Own B n w (W2.setCell ⟨B, 3, none⟩ u) tag i k u p li lk l lp := by
  obtain ⟨q1, q2, q3, q4⟩ := h.put hb 3 u
  exact ⟨q1, q2, ownT_kept h.oi q3, ownT_kept h.ok q3, ownT_kept (ownT_le hu h.blk.lt) q4, ownT_kept h.op q3⟩
theorem pss_step {B n : Nat} {w W W2 : World} {tag : ByteArray} {i k a p : Value} {li lk : List ByteArray} {la : List At} {lp : List Ps} (h : Own B n w W tag i k a p li lk la lp) (hb : Below W.heap.size W W2) {u : Value} {l : List Ps} (hu : OwnT W.heap.size 56 4 (PsC (SelsR 10 n w)) W2 u l) : Own B n w (W2.setCell ⟨B, 4, none⟩ u) tag i k a u li lk la l := by
  obtain ⟨q1, q2, q3, q4⟩ := h.put hb 4 u
  exact ⟨q1, q2, ownT_kept h.oi q3, ownT_kept h.ok q3, ownT_kept h.oa q3, ownT_kept (ownT_le hu h.blk.lt) q4⟩
/-- It is as match reads a compound. -/
theorem Own.cpt {B n : Nat} {w W : World} {i k a p : Value} {x y : Cp} (h : Own B n w W (x.tag ++ y.tag) i k a p (x.ids ++ y.ids) (x.classes ++ y.classes) (x.attrs ++ y.attrs) (x.pss ++ y.pss)) (hn : n ≤ B) (fx : FewQ 10 x) (fy : FewQ 10 y) (gx : CW 10 x) (gy : CW 10 y) :
    CpT (SelsAt 10 W.heap.size W) W.heap.size W [.string (bothC x y).tag, i, k, a, p] (bothC x y) := by
  have hnW : n ≤ W.heap.size := Nat.le_trans hn (Nat.le_of_lt h.blk.lt)
  refine ⟨i, k, a, p, rfl, slr_of (h.oi.row (by decide)) (fun _ _ h => h), slr_of (h.ok.row (by decide)) (fun _ _ h => h), slr_of (h.oa.row (by decide)) (fun _ _ h => h), row_cv (h.op.row (by decide)) (fun cs q hq ⟨v, e, hv⟩ => ?_), ?_, fun _ _ => trivial⟩
  · have hq2 : q ∈ x.pss ++ y.pss := hq
    have hf : FewD 10 q.list := by rcases List.mem_append.1 hq2 with h | h; exact fx.2 q h; exact fy.2 q h
    have hw : (wfI q.kind ∧ wfI q.a ∧ wfI q.b) ∧ WD 10 q.list := by rcases List.mem_append.1 hq2 with h | h; exact gx.2 q h; exact gy.2 q h
    obtain ⟨⟨w0, w1, w2⟩, w3⟩ := hw
    refine ⟨v, e, (SelsAt.below 10 (sels_of 10 v q.list hv hf w3) (h.low.mono hn)).mono 10 hnW, i64_of w0, i64_of w1, i64_of w2, ?_⟩
    unfold WD at w3
    exact w3.1
  · show (x.pss ++ y.pss).length ≤ _
    rw [List.length_append]
    have := fx.1.2.2.2
    have := fy.1.2.2.2
    omega

/-- The same with the tag and the lengths named. -/
theorem Own.cpt' {B n : Nat} {w W : World} {TG : ByteArray} {L1 L2 L3 L4 c1 c2 c3 c4 : Nat} {z1 z2 z3 z4 : Option Addr} {x y : Cp} (h : Own B n w W TG (.slice z1 L1 c1) (.slice z2 L2 c2) (.slice z3 L3 c3) (.slice z4 L4 c4) (x.ids ++ y.ids) (x.classes ++ y.classes) (x.attrs ++ y.attrs) (x.pss ++ y.pss)) (ht : x.tag ++ y.tag = TG)
    (_h1 : (x.ids ++ y.ids).length = L1) (_h2 : (x.classes ++ y.classes).length = L2) (_h3 : (x.attrs ++ y.attrs).length = L3) (_h4 : (x.pss ++ y.pss).length = L4) (hn : n ≤ B) (fx : FewQ 10 x) (fy : FewQ 10 y) (gx : CW 10 x) (gy : CW 10 y) :
    CpT (SelsAt 10 W.heap.size W) W.heap.size W [.string (bothC x y).tag, .slice z1 L1 c1, .slice z2 L2 c2, .slice z3 L3 c3, .slice z4 L4 c4] (bothC x y) := by
  subst ht
  exact h.cpt hn fx fy gx gy
/-- Two parts in a block of their own. -/
theorem parts_twoR {d : Nat} {W : World} {B : Nat} {ca cb : Int} {a b : Cp} {va1 va2 va3 va4 vb1 vb2 vb3 vb4 : Value} (k : Blk W B 42 [.int .i64 ca, .string a.tag, va1, va2, va3, va4, .int .i64 cb, .string b.tag, vb1, vb2, vb3, vb4]) (ha : CpC (SelsR d W.heap.size W) W.heap.size W [.string a.tag, va1, va2, va3, va4] a) (hb : CpC (SelsR d W.heap.size W) W.heap.size W [.string b.tag, vb1, vb2, vb3, vb4] b) :
    PartsR d W.heap.size W (.slice (some ⟨B, 0, none⟩) 2 2) [(ca, a), (cb, b)] := by
  refine .inr ⟨B, 0, 2, rfl, Nat.le_refl _, by unfold maxLen; omega, k.lt, fun j x hx => ?_⟩
  have hj : j < 2 := by have := (List.getElem?_eq_some_iff.1 hx).1; simpa using this
  match j, hj with
  | 0, _ =>
    obtain rfl : (ca, a) = x := by simpa using hx
    refine ⟨[.int .i64 ca, .string a.tag, va1, va2, va3, va4], rfl, ⟨_, rfl, ha⟩, fun i u hu => ?_⟩
    rw [cell_of_block (show W.heap[B]? = _ from k)]
    have hi : i < 6 := (List.getElem?_eq_some_iff.1 hu).1
    match i, hi with
    | 0, _ => simpa using hu
    | 1, _ => simpa using hu
    | 2, _ => simpa using hu
    | 3, _ => simpa using hu
    | 4, _ => simpa using hu
    | 5, _ => simpa using hu
  | 1, _ =>
    obtain rfl : (cb, b) = x := by simpa using hx
    refine ⟨[.int .i64 cb, .string b.tag, vb1, vb2, vb3, vb4], rfl, ⟨_, rfl, hb⟩, fun i u hu => ?_⟩
    rw [cell_of_block (show W.heap[B]? = _ from k)]
    have hi : i < 6 := (List.getElem?_eq_some_iff.1 hu).1
    match i, hi with
    | 0, _ => simpa using hu
    | 1, _ => simpa using hu
    | 2, _ => simpa using hu
    | 3, _ => simpa using hu
    | 4, _ => simpa using hu
    | 5, _ => simpa using hu

end Go.Proofs.Ytchfnnoabejlpaa.Mt
