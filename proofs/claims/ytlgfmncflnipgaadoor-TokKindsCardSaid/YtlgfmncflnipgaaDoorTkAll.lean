/- tok.Tokens at every slice of code points that is not too long. -/
import Derived.Test.YtlgfmncflnipgaaDoorTkSeq
import Derived.Test.YtlgfmncflnipgaaDoorSeqY
namespace Go.Proofs.YtlgfmncflnipgaaDoor
open Go Go.RowKit Go.Shelf
attribute [local go_sem] Oper.semAt_some

/-- A token's cells. -/
def tkCells (t : Tk) : List Value := [.int .i64 t.kind, .string (txtOf t.text), .int .i64 t.n, .bool t.whole, .int .i64 t.c]
def tksCells (l : List Tk) : List Value := l.flatMap tkCells
theorem tksCells_snoc (l : List Tk) (x : Tk) : tksCells (l ++ [x]) = tksCells l ++ tkCells x := by simp [tksCells]
theorem tkV_eq (x : Tk) : tkV x = .agg (tkCells x).toArray := rfl
theorem egToks : ∀ args w, (callFunc 21 args).run Tryd.prog w = .ok (.enter 21 args) w := enters_of Tryd.func21 (by kernel_rfl) rfl
theorem infoTk : (Tryd.prog.info? 27).map (fun i => (i.zero, i.size, i.bytes)) = some (some (.agg #[.int .i64 0, .string ⟨#[]⟩, .int .i64 0, .bool false, .int .i64 0]), 5, 48) := by kernel_rfl

theorem owns_form {X : World} {b : Nat} {e : TypeId} {size : Nat} {v : Value} {m : Nat} {xs : List Value} (h : X.ownsRow b e size v m xs) : ∃ q k c, v = .slice q k c := by
  rcases h.2 with ⟨rfl, _⟩ | ⟨g, cap, cur, rfl, _⟩
  · exact ⟨_, _, _, rfl⟩
  · exact ⟨_, _, _, rfl⟩
theorem far_row {X : World} {b lo hi : Nat} {e : TypeId} {size : Nat} {v : Value} {m : Nat} {xs : List Value} {row : Option Nat} (h : X.ownsRow b e size v m xs) (hr : ∀ r, row = some r → lo ≤ r ∧ r < hi) (hb : hi ≤ b) : v.ownBlock = none ∨ v.ownBlock ≠ row := by
  cases hv : v.ownBlock with
  | none => exact .inl rfl
  | some j =>
    refine .inr (fun e => ?_)
    have := (h.lt j hv).1
    have := hr j e.symm
    omega

set_option maxRecDepth 100000 in
set_option maxHeartbeats 2000000 in
theorem tokens_all (n : Nat) (hn : 1 ≤ n) (v : Value) (raw : List Int) (w : World) (hI : IntsAt w.heap.size w v raw) (hlen : raw.length ≤ 1000000) (hT : RTabs w.heap.size w) :
    CallsIn Fence.wide n Tryd.prog 8 #[v] w fun e w' => ∃ v', e = .returned v' ∧ w'.ownsRow w.heap.size 27 5 v' (toks nvOf (raw.map fixC)).length (tksCells (toks nvOf (raw.map fixC))) ∧ Below w.heap.size w w' := by
  obtain ⟨i0, hi, hz0, hz1, hz2⟩ := info_parts infoTk
  obtain ⟨p, cap, rfl⟩ := hI.len
  have hb1 : Below w.heap.size w (w.alloc (.cells #[.slice none 0 0] 24)) := (Below.refl _ w).alloc (Nat.le_refl _) _
  have bO := Boxed.new w 24 (.slice none 0 0)
  have hs1 : (w.alloc (.cells #[.slice none 0 0] 24)).heap.size = w.heap.size + 1 := by simp
  refine callsIn_of_wp_marks Tryd.func8 rfl trivial ?_ rfl
  simp only [Tryd.ntmps8, List.size_toArray, List.length_cons, List.length_nil, Nat.reduceAdd, Nat.reduceSub, Array.replicate_succ, Array.replicate_zero, List.push_toArray, List.append_toArray, List.nil_append, List.cons_append]
  gi_wp2_with fail
  refine ⟨trivial, ?_⟩
  generalize w.alloc (.cells #[.slice none 0 0] 24) = w1 at *
  refine (tokens_in _ (.slice p raw.length cap) w1 rfl).mono ?_
  rintro e w2 ⟨rfl, rfl⟩
  have hb2 : Below w1.heap.size w1 (w1.alloc (.cells #[.slice p raw.length cap] 31)) := (Below.refl _ w1).alloc (Nat.le_refl _) _
  have hs2 : (w1.alloc (.cells #[.slice p raw.length cap] 31)).heap.size = w.heap.size + 2 := by rw [World.size_alloc, hs1]
  have bL := Boxed.new w1 31 (.slice p raw.length cap)
  have hbb : Below w.heap.size w (w1.alloc (.cells #[.slice p raw.length cap] 31)) := hb1.trans (hb2.mono (by omega))
  have hseq := tokens_seq (n - 1) w1.heap.size w.heap.size (.slice p raw.length cap) raw _ (by omega) (by omega) bL.cell (hI.below hbb) hlen (hT.below hbb)
  replace bO := bO.alloc (.cells #[.slice p raw.length cap] 31)
  have htl : (toks nvOf (raw.map fixC)).length ≤ 1000000 := by
    have := toks_le nvOf (raw.map fixC)
    rw [List.length_map] at this
    omega
  rw [hs1] at hseq
  clear hb1 hb2 bL
  generalize w1.alloc (.cells #[.slice p raw.length cap] 31) = w2 at *
  gi_wp2_with fail
  refine wpIn_rangeFunc_Y rfl hn (gf := 21) (lb := #[.pointer (some ⟨w.heap.size + 1, 0, none⟩)]) rfl trivial egToks hseq (by omega) (Below.refl _ _) (fun _ => rfl)
    (fun pre X => ∃ v', Boxed X w.heap.size 24 v' ∧ X.ownsRow (w.heap.size + 5) 27 5 v' pre.length (tksCells pre) ∧ Below w.heap.size w X)
    ?hI ⟨_, bO, World.ownsRow_nil _ _ _ _, hbb⟩
    (fun x => .cells (tkCells x).toArray 27)
    (fun x b => { tmps := #[.slice p raw.length cap, undef, .slice none 0 0, .pointer (some ⟨w.heap.size, 0, none⟩), .pointer (some ⟨b, 0, none⟩), .slice p raw.length cap, .func (.func 21) #[] #[.pointer (some ⟨w.heap.size + 1, 0, none⟩)], tkV x, undef, undef, undef, undef, undef], defers := [] }) ?assign ?body ?done
  case hI =>
    rintro s X Y row ⟨v', h1, h2, h3⟩ hg hr
    exact ⟨v', h1.kept hg (fun e => by have := hr _ e.symm; omega), h2.kept hg (far_row h2 hr (by omega)), h3.grown hg h3.size (fun r e => by have := hr r e; omega)⟩
  case assign =>
    intro l x X K hK
    simp only [tkV_eq, tkCells] at hK ⊢
    gi_wp2
    exact hK
  case body =>
    rintro l' pre x b X ⟨v', hb, hr, hB⟩ hlt hlb hbX hnew
    have hcb := hb.cell
    have hfv : Five X b (.int .i64 x.kind) (.string (txtOf x.text)) (.int .i64 x.n) (.bool x.whole) (.int .i64 x.c) := hnew
    obtain ⟨c0, c1, c2, c3, c4⟩ := hfv.cells
    have hBs := hB.size
    clear hfv hnew
    gi_wp2_with (gi_at_builtin; refine wpListIn_append_own _ rfl _ _ 24 rfl (w.heap.size + 5) 27 i0 (.agg #[.int .i64 0, .string ⟨#[]⟩, .int .i64 0, .bool false, .int .i64 0]) 5 48 Tryd.underlying24 hi hz0 hz1 hz2 rfl (by decide) _ _ _ rfl (hr.alloc _) ⟨X.heap.size, 0, none⟩ 1 1 (tkCells x) rfl rfl (cells_new _ (tkCells x) _) (fun u hu => by simp [tkCells] at hu; rcases hu with rfl | rfl | rfl | rfl | rfl <;> rfl) (by unfold maxLen; omega) (by omega) (by simp; omega) ?_; intro v2 w3 hown3 hgrow3 hnil3; obtain ⟨q2, m2, k2, rfl⟩ := owns_form hown3; obtain ⟨hv1, hv2, _, hk2, hb2⟩ := hb.appended (by decide) (owns_base hr (Nat.le_add_right _ 5)) (by omega) (Nat.le_refl _) (owns_base hown3 (Nat.le_add_right _ 5)) hgrow3; have hc3 := hv1.cell; have hf3 := hv1.frozen)
    have hl : (pre ++ [x]).length = pre.length + 1 := by simp
    have hr2 := hown3.kept (grownBy_setCell' w3 w.heap.size (.slice q2 m2 k2)) (.inr (fun e => by have := (hown3.lt _ e).1; omega))
    refine ⟨⟨hb2, fun r h1 h2 => ?_⟩, _, hv2, by rw [hl, tksCells_snoc]; exact hr2, hB.trans hb2⟩
    have e1 := (grownBy_setCell' w3 w.heap.size (.slice q2 m2 k2)).block r (Nat.lt_of_lt_of_le (by simp; omega) hgrow3.size) (by simp; omega)
    have e2 := hgrow3.block r (by simp; omega) (fun e => by have := (hr.lt _ e.symm).1; omega)
    exact e1.trans (e2.trans (Below.heap_alloc _ _ _ (by omega)))
  case done =>
    rintro ys X rfl ⟨v', hb, hr, hB⟩ hK
    have hcb := hb.cell
    gi_wp2
    refine ⟨by simp, .inl ⟨_, _, rfl, run_takeDeferred hK, ?_⟩⟩
    exact ⟨_, results_tmp rfl _ _ _, _, rfl, owns_base (ownsRow_putObj hr _ hK rfl) (by omega), hB.trans (belowK_b (w := w) (Nat.le_refl _) X w2.heap.size _ _ (by omega) hK rfl rfl)⟩

/-- tok.Tokens. -/
theorem tokens_any (v : Value) (raw : List Int) (w : World) (hI : IntsAt w.heap.size w v raw) (hlen : raw.length ≤ 1000000) (hT : RTabs w.heap.size w) :
    Calls Tryd.prog 8 #[v] w fun e w' => ∃ v', e = .returned v' ∧ w'.ownsRow w.heap.size 27 5 v' (toks nvOf (raw.map fixC)).length (tksCells (toks nvOf (raw.map fixC))) ∧ Below w.heap.size w w' :=
  callsIn_wide.1 (tokens_all 2 (by omega) v raw w hI hlen hT)

end Go.Proofs.YtlgfmncflnipgaaDoor
