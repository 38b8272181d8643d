/- package match: isAhead at every part and element, where isUpTo is known of the part ahead. -/
import Derived.Test.YtgjfapdnobhkcabMtLoop
namespace Go.Proofs.Ytgjfapdnobhkcab.Mt
open Go Go.RowKit Go.Shelf Dm
attribute [local go_sem] Oper.semAt_some

/-- The rounds' invariant. -/
def AhI (E : Env) (V e f k : Nat) (s : Sel) (comb : Int) (γ1 : Ghost) (X1 : World) (pre : List Nat) (X : World) : Prop :=
  ∃ γ' pw, Loop E V X1.heap.size γ1 X1 pre 2 pw γ' X ∧ (∀ z ∈ pre, uptoV (anyV E.es f) E.es s (k - 1) z = false) ∧ Boxed X (X1.heap.size + 3) 3 (.int .i64 e) ∧ Boxed X (X1.heap.size + 4) 50 (wayF E.tb comb) ∧ Boxed X (X1.heap.size + 5) 4 (.bool (farV comb))
/-- Where it was broken off. -/
def AhX (E : Env) (V f k : Nat) (s : Sel) (res : Bool) (γ1 : Ghost) (X1 : World) (_ : List Nat) (X : World) : Prop :=
  ∃ ps u γ' pw, Loop E V X1.heap.size γ1 X1 ps u pw γ' X ∧ ((u = 1 ∧ res = true) ∨ (u = 2 ∧ res = false)) ∧ ∀ y ∈ ps, y < E.qs.length ∧ vdV E f s k y = res

set_option maxRecDepth 100000 in
set_option maxHeartbeats 8000000 in
theorem isAhead_in (E : Env) (hE : EnvOk E) (n : Nat) (hn : 1 ≤ n) (γ : Ghost) (W : World) (hI : Inv E γ W) (A : Nat) (s : Sel) (pv : Value) (f : Nat) (hA : γ A = some (.asked s pv f)) (k : Nat) (hk : k < s.length) (hk0 : 0 < k) (HU : UpToK E A f s pv (k - 1)) (e : Nat) (he : e < E.qs.length) :
    CallsIn Fence.wide n Try.prog 54 #[.pointer (some ⟨A, 0, none⟩), .int .i64 k, .int .i64 e] W fun r W' => r = .returned (.bool ((aheadV E.es (partAt s k).1 e).any (uptoV (anyV E.es f) E.es s (k - 1)))) ∧ ∃ γ', Step E γ W γ' W' := by
  obtain ⟨W2, hW2⟩ : ∃ W2, (W.alloc (.cells #[.pointer (some ⟨A, 0, none⟩)] 96)).alloc (.cells #[.int .i64 k] 3) = W2 := ⟨_, rfl⟩
  have bW2 : Below W.heap.size W W2 := by rw [← hW2]; exact ((Below.refl _ W).alloc (Nat.le_refl _) _).alloc (by simp) _
  have sW2 : W2.heap.size = W.heap.size + 2 := by rw [← hW2]; simp
  have st2 := hI.step bW2
  have a2 : Boxed W2 W.heap.size 96 (.pointer (some ⟨A, 0, none⟩)) := by rw [← hW2]; exact (Boxed.new _ _ _).alloc _
  have k2 : Boxed W2 (W.heap.size + 1) 3 (.int .i64 k) := by
    rw [← hW2]
    have := Boxed.new (W.alloc (.cells #[.pointer (some ⟨A, 0, none⟩)] 96)) 3 (.int .i64 k)
    rwa [World.size_alloc] at this
  have hfo := foundOf_any E hE γ W2 st2.inv A s pv f hA k hk
  unfold ptrV wide at hfo
  have a2c := a2.cell
  have k2c := k2.cell
  have HI : Hid (Inv E γ W) := hI
  have HE : Hid (EnvOk E) := hE
  have HUU : Hid (UpToK E A f s pv (k - 1)) := HU
  obtain ⟨res, hres⟩ : ∃ r, r = (aheadV E.es (partAt s k).1 e).any (uptoV (anyV E.es f) E.es s (k - 1)) := ⟨_, rfl⟩
  rw [← hres]
  have HR : Hid (res = _) := hres
  clear hI hE HU hres
  refine callsIn_of_wp_marks Try.func54 rfl trivial ?_ rfl
  simp only [Try.ntmps54, List.size_toArray, List.length_cons, List.length_nil, Nat.reduceAdd, Nat.reduceSub, Array.replicate_succ, Array.replicate_zero, List.push_toArray, List.append_toArray, List.nil_append, List.cons_append]
  gi_wp2_with fail
  refine ⟨trivial, ?_⟩
  refine (callsIn_wide.2 hfo).mono ?_
  clear hfo
  rintro r X1 ⟨V, γ1, rfl, hV, st1⟩
  have hI0 := HI.out
  have free2 : ∀ b, W.heap.size ≤ b → γ b = none := fun b hb => hI0.new hb
  have a1 : Boxed X1 W.heap.size 96 (.pointer (some ⟨A, 0, none⟩)) := (st1.block _ a2.lt (free2 _ (Nat.le_refl _))).trans a2
  have k1 : Boxed X1 (W.heap.size + 1) 3 (.int .i64 k) := (st1.block _ k2.lt (free2 _ (by omega))).trans k2
  have hA1 : γ1 A = some (.asked s pv f) := st1.mono st2.inv _ _ hA
  obtain ⟨X4, hX4⟩ : ∃ X4, ((X1.alloc (.cells #[.slice (some ⟨V, 0, none⟩) E.qs.length E.qs.length] 111)).alloc (.cells #[.int .u8 2] 113)).alloc (.cells #[.slice none 0 0] 48) = X4 := ⟨_, rfl⟩
  have b4 : Below X1.heap.size X1 X4 := by rw [← hX4]; exact (((Below.refl _ X1).alloc (Nat.le_refl _) _).alloc (by simp) _).alloc (by simp; omega) _
  have s4 : X4.heap.size = X1.heap.size + 3 := by rw [← hX4]; simp
  have fo4 : Boxed X4 X1.heap.size 111 (.slice (some ⟨V, 0, none⟩) E.qs.length E.qs.length) := by rw [← hX4]; exact ((Boxed.new _ _ _).alloc _).alloc _
  have vb4 : Boxed X4 (X1.heap.size + 1) 113 (.int .u8 2) := by
    rw [← hX4]
    have := (Boxed.new (X1.alloc (.cells #[.slice (some ⟨V, 0, none⟩) E.qs.length E.qs.length] 111)) 113 (.int .u8 2)).alloc (.cells #[.slice none 0 0] 48)
    rwa [World.size_alloc] at this
  have pb4 : Boxed X4 (X1.heap.size + 2) 48 (.slice none 0 0) := by
    rw [← hX4]
    have := Boxed.new ((X1.alloc (.cells #[.slice (some ⟨V, 0, none⟩) E.qs.length E.qs.length] 111)).alloc (.cells #[.int .u8 2] 113)) 48 (.slice none 0 0)
    rwa [World.size_alloc, World.size_alloc] at this
  have st4 := st1.inv.step b4
  clear a2c k2c a2 k2 hW2
  gi_wp2_with fail
  rename_i K0 hK0 K1 hK1
  obtain ⟨⟨d, hP⟩, hfit, fv, lv, kA, _, _⟩ := st4.inv.asked hA1
  obtain ⟨pp, cp, rfl⟩ := RowT.len hP
  obtain ⟨p, hp⟩ : ∃ p, s[k]? = some p := ⟨_, List.getElem?_eq_getElem hk⟩
  obtain ⟨bk, off, vi, vc, va, vp, rfl, hbk, hcap, hmx, _, ⟨x0, _⟩, _⟩ := PartsAt.get hP hp
  unfold maxLen at hmx
  have hcomb : partAt s k = p := partAt_eq hp
  have hs50 := fits_len hfit
  have hki : (k : Int) < (s.length : Int) := by omega
  have hlow : E.w₀.heap.size ≤ X4.heap.size := st4.inv.low.size
  have hbk2 : bk < E.w₀.heap.size := hbk
  unfold ptrV at kA
  have HS : Hid (∀ X : World, Below X4.heap.size X4 X → X.cell? ⟨W.heap.size, 0, none⟩ = some (.pointer (some ⟨A, 0, none⟩)) ∧ X.cell? ⟨W.heap.size + 1, 0, none⟩ = some (.int .i64 k) ∧ X.cell? ⟨A, 0, none⟩ = some (.pointer (some ⟨E.tb, 0, none⟩)) ∧ X.cell? ⟨A, 1, none⟩ = some (.slice (some ⟨bk, off, none⟩) s.length cp) ∧ X.cell? ⟨bk, off + k * 6, none⟩ = some (.int .i64 p.1)) := fun X hX =>
    ⟨(hX.cell (p := ⟨W.heap.size, 0, none⟩) (by have := a1.lt; simp; omega)).trans ((b4.cell (p := ⟨W.heap.size, 0, none⟩) a1.lt).trans a1.cell), (hX.cell (p := ⟨W.heap.size + 1, 0, none⟩) (by have := k1.lt; simp; omega)).trans ((b4.cell (p := ⟨W.heap.size + 1, 0, none⟩) k1.lt).trans k1.cell), (blk4 (kA.next hX)).1.1, (blk4 (kA.next hX)).1.2.1, (hX.cell (p := ⟨bk, off + k * 6, none⟩) (by simp; omega)).trans x0⟩
  have q0 : Below X4.heap.size X4 X4.drew := below_drew (Below.refl _ _)
  have hah := ahead_any E.tb e p.1 X4.drew
  have HeldS := HS.out _ q0
  clear hX4 kA x0 hP
  refine wpIn_onlyN (wpIn_wide.2 ?_)
  refine Rg.wpD_begin [0, 1, 2, 3, 4, 5, 6, 7, 8, 9, 10, 11, 12] (fun X => X.cell? ⟨W.heap.size, 0, none⟩ = some (.pointer (some ⟨A, 0, none⟩)) ∧ X.cell? ⟨W.heap.size + 1, 0, none⟩ = some (.int .i64 k) ∧ X.cell? ⟨A, 0, none⟩ = some (.pointer (some ⟨E.tb, 0, none⟩)) ∧ X.cell? ⟨A, 1, none⟩ = some (.slice (some ⟨bk, off, none⟩) s.length cp) ∧ X.cell? ⟨bk, off + k * 6, none⟩ = some (.int .i64 p.1)) (by kernel_rfl) ?_
  refine Rg.wpD_load 0 (v := ?_) (by simp only [List.getElem?_toArray, List.getElem?_cons_zero]; rfl) (by kernel_rfl) (by kernel_rfl) (by intro _ _ _ h; exact h) HeldS (by rfl) (fun wz hz => ?_) ?_
  rotate_left
  · first | (go_simp; done) | (go_simp; with_reducible rfl)
  simp only [Act.put, List.setIfInBounds_toArray, List.set_cons_succ, List.set_cons_zero]
  refine Rg.wpD_load 1 (v := ?_) (by simp only [List.getElem?_toArray, List.getElem?_cons_succ, List.getElem?_cons_zero]; rfl) (by kernel_rfl) (by kernel_rfl) (by intro _ _ _ h; exact h) HeldS (by rfl) (fun wz hz => ?_) ?_
  rotate_left
  · first | (go_simp; done) | (go_simp; with_reducible rfl)
  simp only [Act.put, List.setIfInBounds_toArray, List.set_cons_succ, List.set_cons_zero]
  refine Rg.wpD_load 2 (v := ?_) (by simp only [List.getElem?_toArray, List.getElem?_cons_succ, List.getElem?_cons_zero]; rfl) (by kernel_rfl) (by kernel_rfl) (by intro _ _ _ h; exact h) HeldS (by rfl) (fun wz hz => ?_) ?_
  rotate_left
  · first | (go_simp; done) | (go_simp; with_reducible rfl)
  simp only [Act.put, List.setIfInBounds_toArray, List.set_cons_succ, List.set_cons_zero]
  refine Rg.wpD_load 3 (v := ?_) (by simp only [List.getElem?_toArray, List.getElem?_cons_succ, List.getElem?_cons_zero]; rfl) (by kernel_rfl) (by kernel_rfl) (by intro _ _ _ h; exact h) HeldS (by rfl) (fun wz hz => ?_) ?_
  rotate_left
  · first | (go_simp; done) | (go_simp; with_reducible rfl)
  simp only [Act.put, List.setIfInBounds_toArray, List.set_cons_succ, List.set_cons_zero]
  refine Rg.wpD_load 4 (v := ?_) (by simp only [List.getElem?_toArray, List.getElem?_cons_succ, List.getElem?_cons_zero]; rfl) (by kernel_rfl) (by kernel_rfl) (by intro _ _ _ h; exact h) HeldS (by rfl) (fun wz hz => ?_) ?_
  rotate_left
  · first | (go_simp; done) | (go_simp; with_reducible rfl)
  simp only [Act.put, List.setIfInBounds_toArray, List.set_cons_succ, List.set_cons_zero]
  refine Rg.wpD_load 5 (v := ?_) (by simp only [List.getElem?_toArray, List.getElem?_cons_succ, List.getElem?_cons_zero]; rfl) (by kernel_rfl) (by kernel_rfl) (by intro _ _ _ h; exact h) HeldS (by rfl) (fun wz hz => ?_) ?_
  rotate_left
  · first | (go_simp; done) | (go_simp; with_reducible rfl)
  simp only [Act.put, List.setIfInBounds_toArray, List.set_cons_succ, List.set_cons_zero]
  refine Rg.wpD_load 6 (v := ?_) (by simp only [List.getElem?_toArray, List.getElem?_cons_succ, List.getElem?_cons_zero]; rfl) (by kernel_rfl) (by kernel_rfl) (by intro _ _ _ h; exact h) HeldS (by rfl) (fun wz hz => ?_) ?_
  rotate_left
  · first | (go_simp; done) | (go_simp; with_reducible rfl)
  simp only [Act.put, List.setIfInBounds_toArray, List.set_cons_succ, List.set_cons_zero]
  refine Rg.wpD_load 7 (v := ?_) (by simp only [List.getElem?_toArray, List.getElem?_cons_succ, List.getElem?_cons_zero]; rfl) (by kernel_rfl) (by kernel_rfl) (by intro _ _ _ h; exact h) HeldS (by rfl) (fun wz hz => ?_) ?_
  rotate_left
  · first | (go_simp; done) | (go_simp; with_reducible rfl)
  simp only [Act.put, List.setIfInBounds_toArray, List.set_cons_succ, List.set_cons_zero]
  refine Rg.wpD_load 8 (v := ?_) (by simp only [List.getElem?_toArray, List.getElem?_cons_succ, List.getElem?_cons_zero]; rfl) (by kernel_rfl) (by kernel_rfl) (by intro _ _ _ h; exact h) HeldS (by rfl) (fun wz hz => ?_) ?_
  rotate_left
  · first | (go_simp; done) | (go_simp; with_reducible rfl)
  simp only [Act.put, List.setIfInBounds_toArray, List.set_cons_succ, List.set_cons_zero]
  refine Rg.wpD_load 9 (v := ?_) (by simp only [List.getElem?_toArray, List.getElem?_cons_succ, List.getElem?_cons_zero]; rfl) (by kernel_rfl) (by kernel_rfl) (by intro _ _ _ h; exact h) HeldS (by rfl) (fun wz hz => ?_) ?_
  rotate_left
  · first | (go_simp; done) | (go_simp; with_reducible rfl)
  simp only [Act.put, List.setIfInBounds_toArray, List.set_cons_succ, List.set_cons_zero]
  refine Rg.wpD_load 10 (v := ?_) (by simp only [List.getElem?_toArray, List.getElem?_cons_succ, List.getElem?_cons_zero]; rfl) (by kernel_rfl) (by kernel_rfl) (by intro _ _ _ h; exact h) HeldS (by rfl) (fun wz hz => ?_) ?_
  rotate_left
  · first | (go_simp; done) | (go_simp; with_reducible rfl)
  simp only [Act.put, List.setIfInBounds_toArray, List.set_cons_succ, List.set_cons_zero]
  refine Rg.wpD_load 11 (v := ?_) (by simp only [List.getElem?_toArray, List.getElem?_cons_succ, List.getElem?_cons_zero]; rfl) (by kernel_rfl) (by kernel_rfl) (by intro _ _ _ h; exact h) HeldS (by rfl) (fun wz hz => ?_) ?_
  rotate_left
  · first | (go_simp; done) | (go_simp; with_reducible rfl)
  simp only [Act.put, List.setIfInBounds_toArray, List.set_cons_succ, List.set_cons_zero]
  refine Rg.wpD_load 12 (v := ?_) (by simp only [List.getElem?_toArray, List.getElem?_cons_succ, List.getElem?_cons_zero]; rfl) (by kernel_rfl) (by kernel_rfl) (by intro _ _ _ h; exact h) HeldS (by rfl) (fun wz hz => ?_) ?_
  rotate_left
  · first | (go_simp; done) | (go_simp; with_reducible rfl)
  simp only [Act.put, List.setIfInBounds_toArray, List.set_cons_succ, List.set_cons_zero]
  refine Rg.wpD_do 13 (by kernel_rfl) (by simp only [List.getElem?_toArray, List.getElem?_cons_succ, List.getElem?_cons_zero]; rfl) (fun K hK => ?_)
  go_simp
  go_at_call 63
  refine Calls.mono hah ?_
  clear hah
  rintro r X7 ⟨rfl, e7, n7, f7, b7, s7⟩
  refine hK _ _ (fun h => absurd h (by decide)) ?_
  clear hK K HeldS
  refine Rg.wpD_done (by kernel_rfl) ?_
  simp only [onlyN]
  simp only [show X4.drew.heap.size = X4.heap.size from rfl, s4] at e7 n7 f7 b7 s7 ⊢
  have st7 : Step E γ1 X1 γ1 X7 := st1.inv.step (Below.trans (below_drew b4) (b7.mono (by omega)))
  have lt1 := st1.inv.lt hV
  have lowX : E.n₀ ≤ X1.heap.size := st1.inv.low.size
  have free1 : ∀ b, X1.heap.size ≤ b → γ1 b = none := fun b hb => st1.inv.new hb
  have L0 : Loop E V X1.heap.size γ1 X1 [] 2 (.slice none 0 0) γ1 X7 := by
    have bb : Below X4.heap.size X4 X7 := Below.trans q0 (by rw [s4]; exact b7)
    have g7 := grown_of_below bb none
    exact ⟨st7, fun b h1 _ => free1 b h1, fo4.kept g7 (by simp), vb4.kept g7 (by simp), pb4.kept g7 (by simp), World.ownsRow_nil _ _ _ _, fun g h => by simp [Value.ownBlock] at h, rfl, by omega, lowX⟩
  clear fo4 vb4 pb4 HS st4 st7 q0 b7
  have HK0 : Hid (∀ (a : Act) (w : World), _ → K0 a w) := hK0
  have CONT : Hid (∀ (ps : List Nat) (u : Int) (pw : Value) (γ' : Ghost) (X : World), Loop E V X1.heap.size γ1 X1 ps u pw γ' X → ((u = 1 ∧ res = true) ∨ (u = 2 ∧ res = false)) → (∀ y ∈ ps, y < E.qs.length ∧ vdV E f s k y = res) → X.heap[X1.heap.size + 6]? = some (.deferred (some [])) →
      K0 { tmps := #[(.pointer (some ⟨A, 0, none⟩)), (.int .i64 k), (.int .i64 e), (.pointer (some ⟨W.heap.size, 0, none⟩)), (.pointer (some ⟨W.heap.size + 1, 0, none⟩)), undef, (.bool false), (.pointer (some ⟨X1.heap.size, 0, none⟩)), (.pointer (some ⟨X1.heap.size + 1, 0, none⟩)), (.pointer (some ⟨X1.heap.size + 2, 0, none⟩)), undef, undef, undef, (.pointer (some ⟨A, 0, none⟩)), (.int .i64 k), (.slice (some ⟨V, 0, none⟩) E.qs.length E.qs.length), (.pointer (some ⟨A, 0, none⟩)), (.pointer (some ⟨A, 0, none⟩)), (.pointer (some ⟨A, 0, none⟩)), (.pointer (some ⟨E.tb, 0, none⟩)), (.int .i64 e), (.pointer (some ⟨A, 0, none⟩)), (.pointer (some ⟨A, 0, none⟩)), (.pointer (some ⟨A, 1, none⟩)), (.slice (some ⟨bk, off, none⟩) s.length cp), (.int .i64 k), (.pointer (some ⟨bk, off + k * 6, none⟩)), (.pointer (some ⟨bk, off + k * 6, none⟩)), (.int .i64 p.1), (.func (.func 72) #[] #[.pointer (some ⟨X1.heap.size + 4, 0, none⟩), .pointer (some ⟨X1.heap.size + 3, 0, none⟩), .pointer (some ⟨X1.heap.size + 5, 0, none⟩)]), undef, undef, undef, undef, undef, undef, undef, undef, undef, undef, undef, undef, undef, undef, undef, undef, undef, undef, undef, undef, undef, undef, undef, undef, undef, undef, undef, undef, undef, undef, undef, undef], defers := [{ target := .collected (X1.heap.size + 6), args := #[] }] } X) := by
    intro ps u pw γ' X hL hu hps hdf
    have hV' : γ' V = some (.verd A k) := (hL.st.role V lt1).trans hV
    have hA' : γ' A = some (.asked s (.slice (some ⟨bk, off, none⟩) s.length cp) f) := (hL.st.role A (st1.inv.lt hA1)).trans hA1
    have hform : ∃ pq cq, pw = .slice pq ps.length cq := by
      obtain ⟨pq, cq, h⟩ := owns_form hL.row
      rw [chI_len] at h
      exact ⟨pq, cq, h⟩
    obtain ⟨pq, cq, rfl⟩ := hform
    have cf := hL.fo.cell
    have cv := hL.vb.cell
    have cpb := hL.pb.cell
    have HV' : Hid (_ = _) := hV'
    have HA' : Hid (_ = _) := hA'
    have HPS : Hid (∀ y ∈ ps, y < E.qs.length ∧ vdV E f s k y = res) := hps
    have HU0 : Hid ((u = 1 ∧ res = true) ∨ (u = 2 ∧ res = false)) := hu
    have HL0 : Hid (Loop E V X1.heap.size γ1 X1 ps u (.slice pq ps.length cq) γ' X) := hL
    have HDF : Hid (_ = _) := hdf
    have hfew := HE.out.few
    have hpl : ps.length ≤ 9223372036854775807 := by have := hL.row.at.short; rwa [chI_len] at this
    refine HK0.out _ _ ?_
    clear HK0 hps hu hL hdf hV' hA'
    gi_wp2
    gi_loopw [51] (fun x wr => ∃ i : Nat, x = .int .i64 i ∧ i ≤ ps.length ∧ Loop E V X1.heap.size γ1 X1 ps u (.slice pq ps.length cq) γ' wr ∧ wr.heap[X1.heap.size + 6]? = some (.deferred (some []))) (fun x _ => ps.length - (intOf x).toNat)
    case atStart => exact ⟨0, rfl, Nat.zero_le _, HL0.out, HDF.out⟩
    case round =>
      clear cf cv cpb
      obtain ⟨i, rfl, hi, hLr, hd⟩ := hrel
      have HLr : Hid _ := hLr
      have HD : Hid (_ = _) := hd
      have cf := hLr.fo.cell
      have cv := hLr.vb.cell
      by_cases hlt : i < ps.length
      · obtain ⟨y, hy⟩ : ∃ y, ps[i]? = some y := ⟨_, List.getElem?_eq_getElem hlt⟩
        obtain ⟨hyN, hyv⟩ := HPS.out y (List.mem_of_getElem? hy)
        obtain ⟨bq, oq, rfl, _, hcq, hmq, hcell⟩ := hLr.row.at.get (k := i) (t := (y : Int)) (by unfold chI; rw [List.getElem?_map, hy]; rfl)
        have z0 := hcell 0 _ rfl
        simp only [Nat.mul_one, Nat.add_zero] at z0
        rw [chI_len] at hcq
        unfold maxLen at hmq
        obtain ⟨v, c, fz, _⟩ := hLr.look HV'.out HA'.out hyN
        have NX := hLr.note HV'.out HA'.out (y := y) (by rw [hyv]; exact HU0.out)
        have HNX : Hid _ := NX
        have hne : X1.heap.size + 6 ≠ V := by omega
        have hd2 : (wr.setCell ⟨V, y, none⟩ (.int .u8 u)).heap[X1.heap.size + 6]? = some (.deferred (some [])) := (Below.heap_setCell _ _ _ _ (by simpa using hne)).trans hd
        have HD2 : Hid (_ = _) := hd2
        have hii : (i : Int) < (ps.length : Int) := by omega
        have hyi : (y : Int) < (E.qs.length : Int) := by omega
        clear hcell NX hd2 hyv hy hLr hd
        gi_wp2
        go_roundw
        case rel => exact ⟨i + 1, rfl, by omega, HNX.out, HD2.out⟩
        case measure => simp [intOf]; omega
      · have hii : ¬ ((i : Int) < (ps.length : Int)) := by omega
        clear hLr hd
        have st9 := HLr.out.st.aside (grownBy_putObj' wr (X1.heap.size + 6) (.deferred none)) (fun b e => by cases e; exact ⟨by omega, HLr.out.free _ (by omega) (by omega)⟩) lowX
        have FIN : Hid (∃ γ9, Step E γ W γ9 _) := ⟨_, (st2.trans st1).trans st9⟩
        clear st9
        rcases HU0.out with ⟨rfl, hr⟩ | ⟨rfl, hr⟩
        · have HRR : Hid (_ = _) := hr
          clear hr
          gi_wp2
          refine ⟨by simp, .inl ⟨_, _, rfl, run_takeDeferred HD.out, ?_⟩⟩
          exact ⟨_, results_tmp rfl _ _ _, by rw [show res = _ from HRR.out]; rfl, FIN.out⟩
        · have HRR : Hid (_ = _) := hr
          clear hr
          gi_wp2
          refine ⟨by simp, .inl ⟨_, _, rfl, run_takeDeferred HD.out, ?_⟩⟩
          exact ⟨_, results_tmp rfl _ _ _, by rw [show res = _ from HRR.out]; rfl, FIN.out⟩
  have hseq := ahead_seq E HE.out (n - 1) (X1.heap.size + 4) (X1.heap.size + 3) (X1.heap.size + 5) p.1 e he X7
  have h7 : X7.heap.size = X1.heap.size + 6 := by omega
  have ba : ∀ b, b < W.heap.size + 2 → W.heap.size ≤ b → γ1 b = none := fun b h1 h2 => (st1.role b (by omega)).trans (free2 b h2)
  have hlenA : ∀ (f' : Nat) (x : Int), (chain E.es p.1 f' x).length ≤ f' := by
    intro f'
    induction f' with
    | zero => intro x; exact Nat.le_refl _
    | succ f' ih =>
      intro x
      rw [chain_succ]
      unfold restV
      split
      · exact Nat.zero_le _
      · split
        · have := ih (nextV E.es p.1 x); simp; omega
        · simp
  have HLEN : Hid (∀ (f' : Nat) (x : Int), (chain E.es p.1 f' x).length ≤ f') := hlenA
  rw [hcomb] at HR
  clear hlenA
  gi_wp2
  refine wpIn_rangeFunc_W 0 rfl hn (gf := 72) (lb := #[.pointer (some ⟨X1.heap.size + 4, 0, none⟩), .pointer (some ⟨X1.heap.size + 3, 0, none⟩), .pointer (some ⟨X1.heap.size + 5, 0, none⟩)]) rfl trivial egAhead hseq (Nat.zero_le _) (Below.refl _ _) (fun _ => rfl)
    (AhI E V e f k s p.1 γ1 X1)
    (AhX E V f k s res γ1 X1)
    ?hI ?hIx ⟨γ1, _, L0, fun z h => (by cases h), e7, n7, f7⟩ ?hIC
    (fun x => { tmps := #[(.pointer (some ⟨A, 0, none⟩)), (.int .i64 k), (.int .i64 e), (.pointer (some ⟨W.heap.size, 0, none⟩)), (.pointer (some ⟨W.heap.size + 1, 0, none⟩)), undef, (.bool false), (.pointer (some ⟨X1.heap.size, 0, none⟩)), (.pointer (some ⟨X1.heap.size + 1, 0, none⟩)), (.pointer (some ⟨X1.heap.size + 2, 0, none⟩)), (.int .i64 (x : Nat)), undef, undef, (.pointer (some ⟨A, 0, none⟩)), (.int .i64 k), (.slice (some ⟨V, 0, none⟩) E.qs.length E.qs.length), (.pointer (some ⟨A, 0, none⟩)), (.pointer (some ⟨A, 0, none⟩)), (.pointer (some ⟨A, 0, none⟩)), (.pointer (some ⟨E.tb, 0, none⟩)), (.int .i64 e), (.pointer (some ⟨A, 0, none⟩)), (.pointer (some ⟨A, 0, none⟩)), (.pointer (some ⟨A, 1, none⟩)), (.slice (some ⟨bk, off, none⟩) s.length cp), (.int .i64 k), (.pointer (some ⟨bk, off + k * 6, none⟩)), (.pointer (some ⟨bk, off + k * 6, none⟩)), (.int .i64 p.1), (.func (.func 72) #[] #[.pointer (some ⟨X1.heap.size + 4, 0, none⟩), .pointer (some ⟨X1.heap.size + 3, 0, none⟩), .pointer (some ⟨X1.heap.size + 5, 0, none⟩)]), (.int .i64 (x : Nat)), undef, undef, undef, undef, undef, undef, undef, undef, undef, undef, undef, undef, undef, undef, undef, undef, undef, undef, undef, undef, undef, undef, undef, undef, undef, undef, undef, undef, undef, undef, undef], defers := [] }) ?assign ?body ?done ?stop
  case hI =>
    rintro pre X Y row ⟨γ', pw, hL, h2, h3, h4, h5⟩ hg hr
    have far : ∀ b, b < X1.heap.size + 6 → some b ≠ row := fun b hb e => by have := hr b e.symm; omega
    exact ⟨γ', pw, hL.abide hg (fun b e => by have := hr b e; omega), h2, h3.kept hg (far _ (by omega)), h4.kept hg (far _ (by omega)), h5.kept hg (far _ (by omega))⟩
  case hIx =>
    rintro pre X Y row ⟨ps, u, γ', pw, hL, h2, h3⟩ hg hr
    exact ⟨ps, u, γ', pw, hL.abide hg (fun b e => by have := hr b e; omega), h2, h3⟩
  case hIC =>
    rintro pre X ⟨γ', pw, hL, h2, h3, h4, h5⟩
    exact ⟨h4.cell, h3.cell, h5.cell, hL.st.inv.tree HE.out⟩
  case assign =>
    intro l x X K hK
    gi_wp2
    exact hK
  case body =>
    rintro l' pre x X ⟨γ', pw, hL, hno, h3, h4, h5⟩ ⟨rest, hok⟩ hsz
    rw [h7] at hsz
    have h8 : X1.heap.size + 8 ≤ X.heap.size := by omega
    have hok' : aheadV E.es (partAt s k).1 e = pre ++ x :: rest := by rw [hcomb]; exact hok.symm
    have hx := (vd_at HE.out he (f := f) hok').1
    have hlen : pre.length < 4097 := by
      have h1 := HLEN.out (e + 1) e
      have h2 : (aheadV E.es p.1 e).length = pre.length + (rest.length + 1) := by rw [← hok]; simp
      unfold aheadV at h2
      have := HE.out.few
      omega
    have hV' : γ' V = some (.verd A k) := (hL.st.role V lt1).trans hV
    have hA' : γ' A = some (.asked s (.slice (some ⟨bk, off, none⟩) s.length cp) f) := (hL.st.role A (st1.inv.lt hA1)).trans hA1
    have aX : Boxed X W.heap.size 96 (.pointer (some ⟨A, 0, none⟩)) := (hL.st.block _ a1.lt (ba _ (by omega) (Nat.le_refl _))).trans a1
    have kX : Boxed X (W.heap.size + 1) 3 (.int .i64 k) := (hL.st.block _ k1.lt (ba _ (by omega) (by omega))).trans k1
    obtain ⟨v, cV, fV, hv⟩ := hL.look hV' hA' hx
    have hxi : (x : Int) < (E.qs.length : Int) := by omega
    have cf := hL.fo.cell
    have cv := hL.vb.cell
    have fv' := hL.vb.frozen
    have KP : Hid (∀ (b : Nat) (u : Value), X1.heap.size ≤ b → b < X1.heap.size + 6 → ∀ Y, KeepsIn 0 (X1.heap.size + 6) (X1.heap.size + 8) X Y → KeepsIn 0 (X1.heap.size + 6) (X1.heap.size + 8) X (Y.setCell ⟨b, 0, none⟩ u)) := fun b u h1 h2 Y hY => hY.trans ⟨(Below.refl 0 Y).grown (grownBy_setCell' Y b u) (Nat.zero_le _) (fun _ _ => Nat.zero_le _), fun r r1 r2 => Below.heap_setCell _ _ _ _ (by simp; omega)⟩
    have HLX : Hid _ := hL
    have HHV : Hid (_ = _) := hV'
    have HHA : Hid (_ = _) := hA'
    have HNO : Hid (∀ z ∈ pre, uptoV (anyV E.es f) E.es s (k - 1) z = false) := hno
    have HOK : Hid (_ = _) := hok'
    by_cases hv0 : v = 0
    · subst hv0
      have hform : ∃ pq cq, pw = .slice pq pre.length cq := by
        obtain ⟨pq, cq, h⟩ := owns_form hL.row
        rw [chI_len] at h
        exact ⟨pq, cq, h⟩
      obtain ⟨pq, cq, rfl⟩ := hform
      have cpb := hL.pb.cell
      have fpb := hL.pb.frozen
      obtain ⟨i0, hi, hz0, hz1, hz2⟩ := info_parts infoInt
      have r1 : (X.alloc (.cells #[.int .i64 (x : Int)] 3)).ownsRow (X1.heap.size + 8) 3 1 (.slice pq pre.length cq) (chI pre).length ((chI pre).map (Value.int .i64)) := (show IntRow _ _ _ _ from hL.row).alloc _
      have hcl : (chI pre).length = pre.length := chI_len pre
      have hw1 : IntKind.i64.wrap ((k : Int) - 1) = ((k - 1 : Nat) : Int) := by rw [IntKind.wrap_i64]; omega
      have HAX : Hid (Boxed X W.heap.size 96 (.pointer (some ⟨A, 0, none⟩))) := aX
      have HKX : Hid (Boxed X (W.heap.size + 1) 3 (.int .i64 k)) := kX
      have H3 : Hid _ := h3
      have H4 : Hid _ := h4
      have H5 : Hid _ := h5
      have AFTER : Hid (∀ (q4 : Option Addr) (c4 : Nat) (w4 : World), w4.ownsRow (X1.heap.size + 8) 3 1 (.slice q4 (pre.length + 1) c4) (pre.length + 1) ((chI pre).map (Value.int .i64) ++ [.int .i64 (x : Int)]) → (X.alloc (.cells #[.int .i64 (x : Int)] 3)).grownBy w4 (Value.slice pq pre.length cq).ownBlock → ((Value.slice q4 (pre.length + 1) c4).ownBlock = (Value.slice pq pre.length cq).ownBlock ∨ (Value.slice q4 (pre.length + 1) c4).ownBlock = some (X.alloc (.cells #[.int .i64 (x : Int)] 3)).heap.size) →
          w4.cell? ⟨X1.heap.size + 2, 0, none⟩ = some (.slice pq pre.length cq) ∧ w4.frozen? ⟨X1.heap.size + 2, 0, none⟩ = false ∧
          (w4.setCell ⟨X1.heap.size + 2, 0, none⟩ (.slice q4 (pre.length + 1) c4)).cell? ⟨W.heap.size, 0, none⟩ = some (.pointer (some ⟨A, 0, none⟩)) ∧
          (w4.setCell ⟨X1.heap.size + 2, 0, none⟩ (.slice q4 (pre.length + 1) c4)).cell? ⟨W.heap.size + 1, 0, none⟩ = some (.int .i64 k) ∧
          Hid (Loop E V X1.heap.size γ1 X1 (pre ++ [x]) 2 (.slice q4 (pre.length + 1) c4) γ' (w4.setCell ⟨X1.heap.size + 2, 0, none⟩ (.slice q4 (pre.length + 1) c4)) ∧
            KeepsIn 0 (X1.heap.size + 6) (X1.heap.size + 8) X (w4.setCell ⟨X1.heap.size + 2, 0, none⟩ (.slice q4 (pre.length + 1) c4)) ∧
            Boxed (w4.setCell ⟨X1.heap.size + 2, 0, none⟩ (.slice q4 (pre.length + 1) c4)) (X1.heap.size + 3) 3 (.int .i64 e) ∧ Boxed (w4.setCell ⟨X1.heap.size + 2, 0, none⟩ (.slice q4 (pre.length + 1) c4)) (X1.heap.size + 4) 50 (wayF E.tb p.1) ∧ Boxed (w4.setCell ⟨X1.heap.size + 2, 0, none⟩ (.slice q4 (pre.length + 1) c4)) (X1.heap.size + 5) 4 (.bool (farV p.1)) ∧ X1.heap.size + 8 ≤ (w4.setCell ⟨X1.heap.size + 2, 0, none⟩ (.slice q4 (pre.length + 1) c4)).heap.size)) := by
        intro q4 c4 w4 hown4 hgrow4 hat4
        obtain ⟨L4, p4⟩ := hL.push h8 (by rw [hcl]; exact hown4) hgrow4 hat4
        have g2 := grownBy_setCell' w4 (X1.heap.size + 2) (.slice q4 (pre.length + 1) c4)
        have ne : ∀ b, b < X1.heap.size + 8 → some b ≠ (Value.slice pq pre.length cq).ownBlock := fun b hb e => by have := (owns_lt hL.row e.symm).1; omega
        have sz4 := hgrow4.size
        rw [World.size_alloc] at sz4
        have bx : ∀ {t : TypeId} {v : Value} {b : Nat}, Boxed X b t v → b < X1.heap.size + 8 → b ≠ X1.heap.size + 2 → Boxed (w4.setCell ⟨X1.heap.size + 2, 0, none⟩ (.slice q4 (pre.length + 1) c4)) b t v := fun hb h1 h2 => ((hb.alloc _).kept hgrow4 (ne _ h1)).kept g2 (by simpa using h2)
        refine ⟨p4.cell, p4.frozen, Boxed.cell (show Boxed _ W.heap.size 96 _ from (L4.st.block _ a1.lt (ba _ (by omega) (Nat.le_refl _))).trans a1), Boxed.cell (show Boxed _ (W.heap.size + 1) 3 _ from (L4.st.block _ k1.lt (ba _ (by omega) (by omega))).trans k1), L4, KP.out _ _ (by omega) (by omega) _ ⟨((Below.refl 0 X).alloc (Nat.zero_le _) _).grown hgrow4 (Nat.zero_le _) (fun _ _ => Nat.zero_le _), fun r r1 r2 => (hgrow4.block r (by simp; omega) (ne _ (by omega))).trans (Below.heap_alloc _ _ _ (by omega))⟩, bx h3 (by omega) (by omega), bx h4 (by omega) (by omega), bx h5 (by omega) (by omega), by have := g2.size; omega⟩
      clear hL hV' hA' hno hok hok' hv h3 h4 h5 aX kX
      gi_wp2_with (gi_at_builtin; refine wpListIn_append_own_at _ rfl _ _ 48 rfl (X1.heap.size + 8) 3 i0 (.int .i64 0) 1 8 Try.underlying48 hi hz0 hz1 hz2 rfl (by decide) (.slice pq pre.length cq) _ _ rfl r1 ⟨X.heap.size, 0, none⟩ 1 1 [.int .i64 (x : Int)] rfl rfl (cells_plain X [.int .i64 (x : Int)] _) (fun u hu => by simp at hu; subst hu; rfl) (by rw [hcl]; unfold maxLen; omega) (by rw [hcl]; omega) (by simp; omega) ?_; intro pw' w4 hown4 hgrow4 hnil4 hat4; rw [hcl] at hown4; obtain ⟨q4, c4, rfl⟩ := owns_form hown4; obtain ⟨s0, s1, aY, kY, LY⟩ := AFTER.out q4 c4 w4 hown4 hgrow4 hat4)
      clear s0 s1 cV fV cf cv fv' cpb fpb hown4 hgrow4 hnil4 hat4 r1
      obtain ⟨Y, hY⟩ : ∃ Y, w4.setCell ⟨X1.heap.size + 2, 0, none⟩ (.slice q4 (pre.length + 1) c4) = Y := ⟨_, rfl⟩
      rw [hY] at LY aY kY ⊢
      have hU := HUU.out γ' Y LY.out.1.st.inv HHA.out x hx
      refine ⟨trivial, fun h => (by cases h), ?_⟩
      refine (CallsIn.inRound l' (callsIn_wide.2 hU)).mono ?_
      clear hU
      rintro r Z ⟨rfl, γ'', stZ⟩
      obtain ⟨LY1, LY2, LY3, LY4, LY5, LY6⟩ := LY.out
      have LZ := LY1.step stZ LY6
      have bx : ∀ {t : TypeId} {v : Value} {b : Nat}, Boxed Y b t v → X1.heap.size ≤ b → b < X1.heap.size + 8 → Boxed Z b t v := fun hb h1 h2 => (stZ.block _ hb.lt (LY1.free _ h1 h2)).trans hb
      have KZ : KeepsIn 0 (X1.heap.size + 6) (X1.heap.size + 8) X Z := LY2.trans ⟨⟨stZ.inv.low.os.trans LY1.st.inv.low.os.symm, stZ.inv.low.tape.trans LY1.st.inv.low.tape.symm, stZ.inv.low.output.trans LY1.st.inv.low.output.symm, stZ.size, fun _ h => absurd h (Nat.not_lt_zero _)⟩, fun r r1 r2 => stZ.block r (by omega) (LY1.free r (by omega) (by omega))⟩
      have cvZ := LZ.vb.cell
      have fvZ := LZ.vb.frozen
      cases hup : uptoV (anyV E.es f) E.es s (k - 1) x with
      | true =>
        obtain ⟨hr1, hr2⟩ := res_yes HE.out he (f := f) HOK.out HNO.out hup
        rw [hcomb] at hr1
        have hres : res = true := by rw [show res = _ from HR.out]; exact hr1
        have FIN : Hid (KeepsIn 0 X7.heap.size (X7.heap.size + 2 + 0) X (Z.setCell ⟨X1.heap.size + 1, 0, none⟩ (.int .u8 1)) ∧ AhX E V f k s res γ1 X1 (pre ++ [x]) (Z.setCell ⟨X1.heap.size + 1, 0, none⟩ (.int .u8 1))) := by
          rw [h7]
          exact ⟨KP.out _ _ (by omega) (by omega) _ KZ, _, 1, _, _, LZ.setV 1, .inl ⟨rfl, hres⟩, fun y hy => by rw [hres]; exact hr2 y hy⟩
        clear LZ bx KZ LY1 LY2 LY3 LY4 LY5 LY6 stZ hup hr1 hr2 hres h7 s7
        gi_wp2
        exact ⟨rfl, FIN.out⟩
      | false =>
        have FIN : Hid (KeepsIn 0 X7.heap.size (X7.heap.size + 2 + 0) X Z ∧ AhI E V e f k s p.1 γ1 X1 (pre ++ [x]) Z) := by
          rw [h7]
          refine ⟨KZ, _, _, LZ, fun z hz => ?_, bx LY3 (by omega) (by omega), bx LY4 (by omega) (by omega), bx LY5 (by omega) (by omega)⟩
          rcases List.mem_append.1 hz with hz | hz
          · exact HNO.out z hz
          · obtain rfl : z = x := by simpa using hz
            exact hup
        clear LZ bx KZ LY1 LY2 LY3 LY4 LY5 LY6 stZ hup h7 s7
        gi_wp2
        exact FIN.out
    · have hne : (v != 0) = true := by simpa [bne] using hv0
      obtain ⟨hr1, hr2⟩ := res_at HE.out he (f := f) HOK.out HNO.out
      rw [hcomb] at hr1
      have hres : res = vdV E f s k x := by rw [show res = _ from HR.out]; exact hr1
      have FIN : Hid (KeepsIn 0 X7.heap.size (X7.heap.size + 2 + 0) X (X.setCell ⟨X1.heap.size + 1, 0, none⟩ (.int .u8 v)) ∧ AhX E V f k s res γ1 X1 (pre ++ [x]) (X.setCell ⟨X1.heap.size + 1, 0, none⟩ (.int .u8 v))) := by
        rw [h7]
        refine ⟨KP.out _ _ (by omega) (by omega) _ (KeepsIn.refl _ _ _ _), pre, v, _, _, hL.setV v, ?_, fun y hy => by rw [hres]; exact hr2 y hy⟩
        rw [hres]
        rcases hv with h | h | h
        · exact absurd h hv0
        · exact .inl h
        · exact .inr h
      clear hL hV' hA' hno hok hok' hv h3 h4 h5 aX kX hr1 hr2 hres hv0 h7 s7
      gi_wp2
      exact ⟨rfl, FIN.out⟩
  case done =>
    rintro ys X hys ⟨γ', pw, hL, hno, _⟩ hK
    obtain ⟨hr1, hr2⟩ := res_none HE.out he (f := f) (s := s) (k := k) (by rw [hcomb]; exact hys) hno
    rw [hcomb] at hr1
    have hres : res = false := by rw [show res = _ from HR.out]; exact hr1
    rw [h7] at hK
    have FIN := CONT.out ys 2 pw γ' X hL (.inr ⟨rfl, hres⟩) (fun y hy => by rw [hres]; exact hr2 y hy) hK
    rw [h7]
    exact FIN
  case stop =>
    rintro pre X _ ⟨ps, u, γ', pw, hL, hu, hps⟩ hK
    rw [h7] at hK ⊢
    have FIN : Hid _ := CONT.out ps u pw γ' X hL hu hps hK
    clear CONT HK0 hK0
    gi_wp2
    exact FIN.out

end Go.Proofs.Ytgjfapdnobhkcab.Mt
