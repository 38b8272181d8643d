/- The selectors of a text, by the document's own readers; the laws' own 'alive' of chapter 11. -/
import Derived.Test.YtcdimmabnklcnaaSrLi
import Derived.Test.YtcdimmabnklcnaaSlTks
import Derived.Test.YtcdimmabnklcnaaWgMem
namespace Go.Proofs.Ytcdimmabnklcnaa.Wg
open Go.Proofs.Ytcdimmabnklcnaa.Tre
open Go Go.RowKit Go.Shelf Sl

set_option maxRecDepth 100000 in
set_option maxHeartbeats 1000000 in
/-- The laws' own Sels. -/
theorem sels_any (s : ByteArray) (w : World) (hl : s.size ≤ 100000) :
    Calls Try.prog 16 #[.string s] w fun e w' => ∃ (l : List Sel) (y : Value), e = .returned y ∧ SelsR 9 w'.heap.size w' y l ∧ Below w.heap.size w w' ∧ (parseV (tksB s.data.toList) = some l ∨ parseV (tksB s.data.toList) = none ∧ l = []) := by
  obtain ⟨p, m, c, W, hrun, hB, hb, _⟩ := conv_str s w (by omega)
  have hl' : s.data.toList.length ≤ 100000 := by rw [Array.length_toList]; exact hl
  have h1 := refPrepare_any (.slice p m c) s.data.toList W hB (by omega)
  have h2 := fun (v : Value) (X : World) (hr : X.ownsRow 0 3 1 v (prep (ipts s.data.toList)).length ((prep (ipts s.data.toList)).map (Value.int .i64))) => Ref.tokens_any v (prep (ipts s.data.toList)) X (IntsAt.of_owns hr rfl) (by have := prep_len5 s.data.toList; omega)
  rw [prep_fixed5] at h2
  have hg := tksB_good s.data.toList hl'
  obtain ⟨ts, hts⟩ : ∃ ts, (toks Ref.nv (prep (ipts s.data.toList))).map Ref.btOf = ts := ⟨_, rfl⟩
  have htl : (toks Ref.nv (prep (ipts s.data.toList))).length = ts.length := by rw [← hts, List.length_map]
  unfold tksB at hg ⊢
  rw [hts] at hg ⊢
  rw [hts] at h2
  rw [htl] at h2
  clear htl hts hB
  go_enter Try.func16, Try.ntmps16
  go_wp2_with fail
  refine h1.mono ?_
  clear h1
  rintro e w1 ⟨v1, rfl, hr1, b1⟩
  replace h2 := h2 v1 w1 (owns_base hr1 (Nat.zero_le _))
  go_wp2_with fail
  refine h2.mono ?_
  clear h2
  rintro e w2 ⟨v2, rfl, hr2, b2⟩
  have h3 := Sr.selectors_any v2 ts w2 (BtsAt.of_owns hr2 rfl) hg
  clear hr1 hr2
  go_wp2_with fail
  refine h3.mono ?_
  clear h3
  rintro e w3 ⟨l, y, ok, rfl, hsl, b3, hv⟩
  have hbb := below_next (below_next (below_next hb b1) b2) b3
  have hv' : parseV ts = some l ∨ parseV ts = none ∧ l = [] := by
    rcases hv with ⟨_, h⟩ | ⟨_, h, h', _⟩
    · exact .inl h
    · exact .inr ⟨h, h'⟩
  have hR := SelsAt.toR 9 hsl
  clear hv hsl
  go_wp2
  go_ret
  exact ⟨l, y, rfl, hR, hbb, hv'⟩


end Go.Proofs.Ytcdimmabnklcnaa.Wg

/- Many new blocks in a row; rows and parts in new blocks. -/
namespace Go.Proofs.Ytcdimmabnklcnaa.Wg
open Go.Proofs.Ytcdimmabnklcnaa.Tre
open Go Go.RowKit Go.Shelf Sl

/-- The world with these blocks laid, one behind the other. -/
def lays (w : World) : List Obj → World
  | [] => w
  | o :: r => lays (w.alloc o) r
theorem lays_size : ∀ (os : List Obj) (w : World), (lays w os).heap.size = w.heap.size + os.length
  | [], _ => rfl
  | o :: r, w => by
    rw [lays, lays_size r, World.size_alloc, List.length_cons]
    omega
theorem lays_below : ∀ (os : List Obj) (w : World), Below w.heap.size w (lays w os)
  | [], w => Below.refl _ w
  | o :: r, w => by
    have h1 : Below w.heap.size w (w.alloc o) := (Below.refl _ w).alloc (Nat.le_refl _) o
    exact h1.trans ((lays_below r (w.alloc o)).mono h1.size)
theorem lays_at : ∀ (os : List Obj) (w : World) (i : Nat) (o : Obj), os[i]? = some o → (lays w os).heap[w.heap.size + i]? = some o
  | [], _, _, _, h => by simp at h
  | x :: r, w, 0, o, h => by
    obtain rfl : x = o := by simpa using h
    have h1 := lays_below r (w.alloc x)
    rw [lays, Nat.add_zero]
    exact (h1.block w.heap.size (by simp)).trans (World.alloc_heap_new w x)
  | x :: r, w, i + 1, o, h => by
    have := lays_at r (w.alloc x) i o (by simpa using h)
    rw [World.size_alloc] at this
    rw [lays, show w.heap.size + (i + 1) = w.heap.size + 1 + i by omega]
    exact this
/-- A block of cells is a row of one. -/
theorem row_one {α : Type} {sz : Nat} {T : List Value → α → Prop} {W : World} {b : Nat} {t : TypeId} {cs : List Value} {x : α} (h : W.heap[b]? = some (.cells cs.toArray t (0, 0))) (hl : cs.length = sz) (hx : T cs x) : RowT sz T W.heap.size W (.slice (some ⟨b, 0, none⟩) 1 1) [x] := by
  refine .inr ⟨b, 0, 1, rfl, Nat.le_refl _, by decide, (Array.getElem?_eq_some_iff.1 h).1, fun j y hy => ?_⟩
  cases j with
  | succ j => simp at hy
  | zero =>
    obtain rfl : x = y := by simpa using hy
    refine ⟨cs, hl, hx, fun i u hu => ?_⟩
    rw [cell_of_block h]
    simpa using hu
theorem row_nil {α : Type} (sz : Nat) (T : List Value → α → Prop) (n : Nat) (W : World) : RowT sz T n W (.slice none 0 0) ([] : List α) := .inl ⟨rfl, _, _, rfl⟩
theorem SelsR.nil : ∀ (d n : Nat) (W : World), SelsR d n W (.slice none 0 0) []
  | 0, _, _ => ⟨rfl, _, _, _, rfl⟩
  | _ + 1, _, _ => row_nil _ _ _ _
/-- One part in a new block. -/
theorem parts_new {d : Nat} {W : World} {comb : Int} {cells : List Value} {c : Cp} (hl : cells.length = 5) (h : CpC (SelsR d W.heap.size W) W.heap.size W cells c) (t : TypeId) : PartsR d (W.alloc (.cells (.int .i64 comb :: cells).toArray t)).heap.size (W.alloc (.cells (.int .i64 comb :: cells).toArray t)) (.slice (some ⟨W.heap.size, 0, none⟩) 1 1) [(comb, c)] := by
  have b : Below W.heap.size W (W.alloc (.cells (.int .i64 comb :: cells).toArray t)) := (Below.refl _ _).alloc (Nat.le_refl _) _
  exact row_one (heap_alloc_new W _) (by rw [List.length_cons, hl]) ⟨cells, rfl, (h.below b (fun _ _ hq => hq.below d b)).mono b.size (fun _ _ hq => hq.mono d b.size)⟩

end Go.Proofs.Ytcdimmabnklcnaa.Wg
