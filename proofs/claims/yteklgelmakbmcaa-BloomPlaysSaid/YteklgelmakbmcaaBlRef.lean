/- The document's own filter (tapestrierref9: two, up, down, Push, Pop, May), at every filter and every slice of hashes. -/
import Derived.Test.YteklgelmakbmcaaBlFlt
import Derived.Test.YteklgelmakbmcaaBlFact
namespace Go.Proofs.Yteklgelmakbmcaa.Bl
open Go Go.RowKit Go.Shelf

/-- Block b is the document's filter with the counters c. -/
def RFltAt (W : World) (b : Nat) (c : Nat → Nat) : Prop :=
  (∃ A, W.heap[b]? = some (.cells A 45 (0, 0)) ∧ A.size = 1024 ∧ ∀ i, i < 1024 → A[i]? = some (.int .i64 (c i))) ∧ ∀ i, c i ≤ 255
theorem RFltAt.kept {X Y : World} {b : Nat} {c : Nat → Nat} (h : RFltAt X b c) (hk : Y.heap[b]? = X.heap[b]?) : RFltAt Y b c := by
  obtain ⟨⟨A, h1, h2⟩, h3⟩ := h
  exact ⟨⟨A, hk.trans h1, h2⟩, h3⟩
theorem RFltAt.lt {X : World} {b : Nat} {c : Nat → Nat} (h : RFltAt X b c) : b < X.heap.size := by
  obtain ⟨⟨A, h1, _⟩, _⟩ := h
  exact (Array.getElem?_eq_some_iff.1 h1).1
theorem RFltAt.cell {X : World} {b : Nat} {c : Nat → Nat} (h : RFltAt X b c) {i : Nat} (hi : i < 1024) : X.cell? ⟨b, i, none⟩ = some (.int .i64 (c i)) ∧ X.frozen? ⟨b, i, none⟩ = false := by
  obtain ⟨⟨A, h1, h2, h3⟩, _⟩ := h
  constructor
  · simp [World.cell?, h1, h3 i hi]
  · simp [World.frozen?, h1]
theorem RFltAt.ext {X : World} {b : Nat} {c c' : Nat → Nat} (h : RFltAt X b c) (e : ∀ i, c' i = c i) : RFltAt X b c' := by
  obtain rfl : c' = c := funext e
  exact h
theorem RFltAt.put {X : World} {b : Nat} {c c' : Nat → Nat} (h : RFltAt X b c) {i : Nat} (hi : i < 1024) {n : Int} (hn : n = (c' i : Int)) (hc : ∀ j, j ≠ i → c' j = c j) (hl : c' i ≤ 255) : RFltAt (X.setCell ⟨b, i, none⟩ (.int .i64 n)) b c' := by
  obtain ⟨⟨A, h1, h2, h3⟩, h4⟩ := h
  subst hn
  have hlt : b < X.heap.size := (Array.getElem?_eq_some_iff.1 h1).1
  refine ⟨⟨A.setIfInBounds i (.int .i64 (c' i)), ?_, by simpa using h2, fun j hj => ?_⟩, fun j => ?_⟩
  · have hb : X.heap[b] = .cells A 45 (0, 0) := (Array.getElem?_eq_some_iff.1 h1).2
    simp [World.setCell, hlt, Array.getElem_modify, hb]
  · by_cases e : j = i
    · subst e; simp [h2, hj]
    · rw [Array.getElem?_setIfInBounds_ne (fun x => e x.symm), h3 j hj, hc j e]
  · by_cases e : j = i
    · subst e; exact hl
    · rw [hc j e]; exact h4 j

set_option maxRecDepth 100000 in
theorem two_any (h : Int) (w : World) : Calls Try.prog 36 #[.int .i64 h] w fun e w' => e = .returned (.tuple #[.int .i64 (firstV h), .int .i64 (secondV h)]) ∧ w' = w := by
  have ha := and32 h
  have hx := loV_lt h
  have hr : ((loV h : Nat) : Int) % 1024 = ((firstV h : Nat) : Int) := by unfold firstV; omega
  have hr2 : ((loV h : Nat) : Int) / 1024 % 1024 = ((secondV h : Nat) : Int) := by unfold secondV; omega
  have HR : Hid (_ ∧ _) := ⟨hr, hr2⟩
  clear hr hr2
  go_enter Try.func36, Try.ntmps36
  go_wp2
  rw [HR.out.1, HR.out.2]
  go_ret2
  exact ⟨rfl, rfl⟩

set_option maxRecDepth 100000 in
set_option maxHeartbeats 400000 in
theorem up_any (b : Nat) (c : Nat → Nat) (i : Nat) (hi : i < 1024) (w : World) (hf : RFltAt w b c) :
    Calls Try.prog 38 #[.pointer (some ⟨b, 0, none⟩), .int .i64 (i : Int)] w fun e w' => (∃ u, e = .returned u) ∧ RFltAt w' b (upV c i) ∧ Fr (fun r => r = b) (fun r => r = b) w w' := by
  obtain ⟨c1, c2⟩ := hf.cell hi
  have hii : (i : Int) < 1024 := by omega
  have hle := hf.2 i
  have HX : Hid (RFltAt w b c) := hf
  have hlt := hf.lt
  clear hf
  by_cases h : c i < 255
  · have hb : decide (c i < 255) = true := by simpa using h
    have hb' : decide (((c i : Nat) : Int) < 255) = true := by simp; omega
    have hu : upV c i i = c i + 1 := if_pos ⟨rfl, h⟩
    have HU : Hid (_ = _) := hu
    have HH : Hid (_ < _) := h
    clear hu h
    go_enter Try.func38, Try.ntmps38
    go_wp2
    have HeldS : (fun X : World => X.cell? ⟨b, i, none⟩ = some (.int .i64 (c i))) w.drew := c1
    refine Rg.wpD_begin [0, 1, 2, 3, 4, 5, 6, 7, 8, 9] (fun X : World => X.cell? ⟨b, i, none⟩ = some (.int .i64 (c i))) (by kernel_rfl) ?_
    refine Rg.wpD_load 0 (v := ?_) (by simp only [List.getElem?_toArray, List.getElem?_cons_zero]; rfl) (by kernel_rfl) (by kernel_rfl) (by intro _ _ _ h; exact h) HeldS (by rfl) (fun wz hz => ?_) ?_
    rotate_left
    · first | (go_simp; done) | (go_simp; with_reducible rfl)
    simp only [Act.put, List.setIfInBounds_toArray, List.set_cons_succ, List.set_cons_zero]
    refine Rg.wpD_load 1 (v := ?_) (by simp only [List.getElem?_toArray, List.getElem?_cons_succ, List.getElem?_cons_zero]; rfl) (by kernel_rfl) (by kernel_rfl) (by intro _ _ _ h; exact h) HeldS (by rfl) (fun wz hz => ?_) ?_
    rotate_left
    · first | (go_simp; done) | (go_simp; with_reducible rfl)
    simp only [Act.put, List.setIfInBounds_toArray, List.set_cons_succ, List.set_cons_zero]
    refine Rg.wpD_load 2 (v := ?_) (by simp only [List.getElem?_toArray, List.getElem?_cons_succ, List.getElem?_cons_zero]; rfl) (by kernel_rfl) (by kernel_rfl) (by intro _ _ _ h; exact h) HeldS (by rfl) (fun wz hz => ?_) ?_
    rotate_left
    · first | (go_simp; done) | (go_simp; with_reducible rfl)
    simp only [Act.put, List.setIfInBounds_toArray, List.set_cons_succ, List.set_cons_zero]
    refine Rg.wpD_load 3 (v := ?_) (by simp only [List.getElem?_toArray, List.getElem?_cons_succ, List.getElem?_cons_zero]; rfl) (by kernel_rfl) (by kernel_rfl) (by intro _ _ _ h; exact h) HeldS (by rfl) (fun wz hz => ?_) ?_
    rotate_left
    · first | (go_simp; done) | (go_simp; with_reducible rfl)
    simp only [Act.put, List.setIfInBounds_toArray, List.set_cons_succ, List.set_cons_zero]
    refine Rg.wpD_load 4 (v := ?_) (by simp only [List.getElem?_toArray, List.getElem?_cons_succ, List.getElem?_cons_zero]; rfl) (by kernel_rfl) (by kernel_rfl) (by intro _ _ _ h; exact h) HeldS (by rfl) (fun wz hz => ?_) ?_
    rotate_left
    · first | (go_simp; done) | (go_simp; with_reducible rfl)
    simp only [Act.put, List.setIfInBounds_toArray, List.set_cons_succ, List.set_cons_zero]
    refine Rg.wpD_load 5 (v := ?_) (by simp only [List.getElem?_toArray, List.getElem?_cons_succ, List.getElem?_cons_zero]; rfl) (by kernel_rfl) (by kernel_rfl) (by intro _ _ _ h; exact h) HeldS (by rfl) (fun wz hz => ?_) ?_
    rotate_left
    · first | (go_simp; done) | (go_simp; with_reducible rfl)
    simp only [Act.put, List.setIfInBounds_toArray, List.set_cons_succ, List.set_cons_zero]
    refine Rg.wpD_load 6 (v := ?_) (by simp only [List.getElem?_toArray, List.getElem?_cons_succ, List.getElem?_cons_zero]; rfl) (by kernel_rfl) (by kernel_rfl) (by intro _ _ _ h; exact h) HeldS (by rfl) (fun wz hz => ?_) ?_
    rotate_left
    · first | (go_simp; done) | (go_simp; with_reducible rfl)
    simp only [Act.put, List.setIfInBounds_toArray, List.set_cons_succ, List.set_cons_zero]
    refine Rg.wpD_load 7 (v := ?_) (by simp only [List.getElem?_toArray, List.getElem?_cons_succ, List.getElem?_cons_zero]; rfl) (by kernel_rfl) (by kernel_rfl) (by intro _ _ _ h; exact h) HeldS (by rfl) (fun wz hz => ?_) ?_
    rotate_left
    · first | (go_simp; done) | (go_simp; with_reducible rfl)
    simp only [Act.put, List.setIfInBounds_toArray, List.set_cons_succ, List.set_cons_zero]
    refine Rg.wpD_load 8 (v := ?_) (by simp only [List.getElem?_toArray, List.getElem?_cons_succ, List.getElem?_cons_zero]; rfl) (by kernel_rfl) (by kernel_rfl) (by intro _ _ _ h; exact h) HeldS (by rfl) (fun wz hz => ?_) ?_
    rotate_left
    · first | (go_simp; done) | (go_simp; with_reducible rfl)
    simp only [Act.put, List.setIfInBounds_toArray, List.set_cons_succ, List.set_cons_zero]
    refine Rg.wpD_load 9 (v := ?_) (by simp only [List.getElem?_toArray, List.getElem?_cons_succ, List.getElem?_cons_zero]; rfl) (by kernel_rfl) (by kernel_rfl) (by intro _ _ _ h; exact h) HeldS (by rfl) (fun wz hz => ?_) ?_
    rotate_left
    · first | (go_simp; done) | (go_simp; with_reducible rfl)
    simp only [Act.put, List.setIfInBounds_toArray, List.set_cons_succ, List.set_cons_zero]
    refine Rg.wpD_do 10 (by kernel_rfl) (by simp only [List.getElem?_toArray, List.getElem?_cons_succ, List.getElem?_cons_zero]; rfl) (fun K hK => ?_)
    go_simp
    refine hK _ _ (fun h => absurd h (by decide)) ?_
    clear hK K
    refine Rg.wpD_done (by kernel_rfl) ?_
    go_end0
    refine ⟨⟨_, rfl⟩, ?_, ?_⟩
    · refine RFltAt.kept (X := w.setCell ⟨b, i, none⟩ (.int .i64 (IntKind.i64.wrap (c i + 1)))) ?_ rfl
      refine HX.out.put hi ?_ (fun j hj => if_neg (fun e => hj e.1)) (by have := HH.out; rw [HU.out]; omega)
      rw [HU.out, IntKind.wrap_i64]; omega
    · exact ((Fr.refl (D := fun r => r = b) (fun r (e : r = b) => by omega)).grown (setCell_at w b i _) (fun r e => by cases e; exact .inl rfl)).grown (drew_at _) (fun _ e => by cases e)
  · have hb : decide (c i < 255) = false := by simpa using h
    have hb' : decide (((c i : Nat) : Int) < 255) = false := by simp; omega
    go_enter Try.func38, Try.ntmps38
    go_wp2
    go_end0
    exact ⟨⟨_, rfl⟩, HX.out.ext (fun j => if_neg (fun e => h e.2)), Fr.refl (D := fun r => r = b) (fun r (e : r = b) => by omega)⟩

set_option maxRecDepth 100000 in
set_option maxHeartbeats 400000 in
theorem down_any (b : Nat) (c : Nat → Nat) (i : Nat) (hi : i < 1024) (w : World) (hf : RFltAt w b c) :
    Calls Try.prog 37 #[.pointer (some ⟨b, 0, none⟩), .int .i64 (i : Int)] w fun e w' => (∃ u, e = .returned u) ∧ RFltAt w' b (downV c i) ∧ Fr (fun r => r = b) (fun r => r = b) w w' := by
  obtain ⟨c1, c2⟩ := hf.cell hi
  have hii : (i : Int) < 1024 := by omega
  have hle := hf.2 i
  have HX : Hid (RFltAt w b c) := hf
  have hlt := hf.lt
  clear hf
  by_cases h : c i < 255
  · have hb : decide (c i < 255) = true := by simpa using h
    have hb' : decide (((c i : Nat) : Int) < 255) = true := by simp; omega
    by_cases h0 : 0 < c i
    · have e0 : decide (0 < c i) = true := by simpa using h0
      have e0' : decide (0 < ((c i : Nat) : Int)) = true := by simp; omega
      have hu : downV c i i = c i - 1 := if_pos ⟨rfl, h0, h⟩
      have HU : Hid (_ = _) := hu
      have H0 : Hid (_ < _) := h0
      clear hu h h0
      go_enter Try.func37, Try.ntmps37
      go_wp2
      have HeldS : (fun X : World => X.cell? ⟨b, i, none⟩ = some (.int .i64 (c i))) w.drew := c1
      refine Rg.wpD_begin [0, 1, 2, 3, 4, 5, 6, 7, 8, 9] (fun X : World => X.cell? ⟨b, i, none⟩ = some (.int .i64 (c i))) (by kernel_rfl) ?_
      refine Rg.wpD_load 0 (v := ?_) (by simp only [List.getElem?_toArray, List.getElem?_cons_zero]; rfl) (by kernel_rfl) (by kernel_rfl) (by intro _ _ _ h; exact h) HeldS (by rfl) (fun wz hz => ?_) ?_
      rotate_left
      · first | (go_simp; done) | (go_simp; with_reducible rfl)
      simp only [Act.put, List.setIfInBounds_toArray, List.set_cons_succ, List.set_cons_zero]
      refine Rg.wpD_load 1 (v := ?_) (by simp only [List.getElem?_toArray, List.getElem?_cons_succ, List.getElem?_cons_zero]; rfl) (by kernel_rfl) (by kernel_rfl) (by intro _ _ _ h; exact h) HeldS (by rfl) (fun wz hz => ?_) ?_
      rotate_left
      · first | (go_simp; done) | (go_simp; with_reducible rfl)
      simp only [Act.put, List.setIfInBounds_toArray, List.set_cons_succ, List.set_cons_zero]
      refine Rg.wpD_load 2 (v := ?_) (by simp only [List.getElem?_toArray, List.getElem?_cons_succ, List.getElem?_cons_zero]; rfl) (by kernel_rfl) (by kernel_rfl) (by intro _ _ _ h; exact h) HeldS (by rfl) (fun wz hz => ?_) ?_
      rotate_left
      · first | (go_simp; done) | (go_simp; with_reducible rfl)
      simp only [Act.put, List.setIfInBounds_toArray, List.set_cons_succ, List.set_cons_zero]
      refine Rg.wpD_load 3 (v := ?_) (by simp only [List.getElem?_toArray, List.getElem?_cons_succ, List.getElem?_cons_zero]; rfl) (by kernel_rfl) (by kernel_rfl) (by intro _ _ _ h; exact h) HeldS (by rfl) (fun wz hz => ?_) ?_
      rotate_left
      · first | (go_simp; done) | (go_simp; with_reducible rfl)
      simp only [Act.put, List.setIfInBounds_toArray, List.set_cons_succ, List.set_cons_zero]
      refine Rg.wpD_load 4 (v := ?_) (by simp only [List.getElem?_toArray, List.getElem?_cons_succ, List.getElem?_cons_zero]; rfl) (by kernel_rfl) (by kernel_rfl) (by intro _ _ _ h; exact h) HeldS (by rfl) (fun wz hz => ?_) ?_
      rotate_left
      · first | (go_simp; done) | (go_simp; with_reducible rfl)
      simp only [Act.put, List.setIfInBounds_toArray, List.set_cons_succ, List.set_cons_zero]
      refine Rg.wpD_load 5 (v := ?_) (by simp only [List.getElem?_toArray, List.getElem?_cons_succ, List.getElem?_cons_zero]; rfl) (by kernel_rfl) (by kernel_rfl) (by intro _ _ _ h; exact h) HeldS (by rfl) (fun wz hz => ?_) ?_
      rotate_left
      · first | (go_simp; done) | (go_simp; with_reducible rfl)
      simp only [Act.put, List.setIfInBounds_toArray, List.set_cons_succ, List.set_cons_zero]
      refine Rg.wpD_load 6 (v := ?_) (by simp only [List.getElem?_toArray, List.getElem?_cons_succ, List.getElem?_cons_zero]; rfl) (by kernel_rfl) (by kernel_rfl) (by intro _ _ _ h; exact h) HeldS (by rfl) (fun wz hz => ?_) ?_
      rotate_left
      · first | (go_simp; done) | (go_simp; with_reducible rfl)
      simp only [Act.put, List.setIfInBounds_toArray, List.set_cons_succ, List.set_cons_zero]
      refine Rg.wpD_load 7 (v := ?_) (by simp only [List.getElem?_toArray, List.getElem?_cons_succ, List.getElem?_cons_zero]; rfl) (by kernel_rfl) (by kernel_rfl) (by intro _ _ _ h; exact h) HeldS (by rfl) (fun wz hz => ?_) ?_
      rotate_left
      · first | (go_simp; done) | (go_simp; with_reducible rfl)
      simp only [Act.put, List.setIfInBounds_toArray, List.set_cons_succ, List.set_cons_zero]
      refine Rg.wpD_load 8 (v := ?_) (by simp only [List.getElem?_toArray, List.getElem?_cons_succ, List.getElem?_cons_zero]; rfl) (by kernel_rfl) (by kernel_rfl) (by intro _ _ _ h; exact h) HeldS (by rfl) (fun wz hz => ?_) ?_
      rotate_left
      · first | (go_simp; done) | (go_simp; with_reducible rfl)
      simp only [Act.put, List.setIfInBounds_toArray, List.set_cons_succ, List.set_cons_zero]
      refine Rg.wpD_load 9 (v := ?_) (by simp only [List.getElem?_toArray, List.getElem?_cons_succ, List.getElem?_cons_zero]; rfl) (by kernel_rfl) (by kernel_rfl) (by intro _ _ _ h; exact h) HeldS (by rfl) (fun wz hz => ?_) ?_
      rotate_left
      · first | (go_simp; done) | (go_simp; with_reducible rfl)
      simp only [Act.put, List.setIfInBounds_toArray, List.set_cons_succ, List.set_cons_zero]
      refine Rg.wpD_do 10 (by kernel_rfl) (by simp only [List.getElem?_toArray, List.getElem?_cons_succ, List.getElem?_cons_zero]; rfl) (fun K hK => ?_)
      go_simp
      refine hK _ _ (fun h => absurd h (by decide)) ?_
      clear hK K
      refine Rg.wpD_done (by kernel_rfl) ?_
      go_end0
      have h0 := H0.out
      refine ⟨⟨_, rfl⟩, ?_, ?_⟩
      · refine RFltAt.kept (X := w.setCell ⟨b, i, none⟩ (.int .i64 (IntKind.i64.wrap (c i - 1)))) ?_ rfl
        refine HX.out.put hi ?_ (fun j hj => if_neg (fun e => hj e.1)) (by rw [HU.out]; omega)
        rw [HU.out, IntKind.wrap_i64]; omega
      · exact ((Fr.refl (D := fun r => r = b) (fun r (e : r = b) => by omega)).grown (setCell_at w b i _) (fun r e => by cases e; exact .inl rfl)).grown (drew_at _) (fun _ e => by cases e)
    · have e0 : decide (0 < c i) = false := by simpa using h0
      have e0' : decide (0 < ((c i : Nat) : Int)) = false := by simp; omega
      have FIN : Hid (RFltAt w b (downV c i)) := HX.out.ext (fun j => if_neg (fun e => h0 e.2.1))
      clear h h0
      go_enter Try.func37, Try.ntmps37
      go_wp2
      go_end0
      exact ⟨⟨_, rfl⟩, FIN.out, Fr.refl (D := fun r => r = b) (fun r (e : r = b) => by omega)⟩
  · have hb : decide (c i < 255) = false := by simpa using h
    have hb' : decide (((c i : Nat) : Int) < 255) = false := by simp; omega
    have FIN : Hid (RFltAt w b (downV c i)) := HX.out.ext (fun j => if_neg (fun e => h e.2.2))
    clear h
    go_enter Try.func37, Try.ntmps37
    go_wp2
    go_end0
    exact ⟨⟨_, rfl⟩, FIN.out, Fr.refl (D := fun r => r = b) (fun r (e : r = b) => by omega)⟩

theorem take_next {l : List Int} {k : Nat} {h : Int} (hk : l[k]? = some h) : (l.take (k + 1)).flatMap ctrs = (l.take k).flatMap ctrs ++ ctrs h := take_flat hk
set_option maxRecDepth 100000 in
set_option maxHeartbeats 400000 in
theorem refPush_any (b : Nat) (c : Nat → Nat) (v : Value) (l : List Int) (w : World) (hf : RFltAt w b c) (hl : IntsR w v l) (ho : Off v l b) :
    Calls Try.prog 21 #[.pointer (some ⟨b, 0, none⟩), v] w fun e w' => (∃ u, e = .returned u) ∧ RFltAt w' b (pushV c l) ∧ Fr (fun r => r = b) (fun r => r = b) w w' := by
  obtain ⟨p, cap, rfl⟩ := hl.len
  have hmx := hl.short
  unfold maxLen at hmx
  have HL : Hid (IntsR w (.slice p l.length cap) l) := hl
  have HO : Hid (Off (.slice p l.length cap) l b) := ho
  have hbl := hf.lt
  clear hl ho
  go_enter Try.func21, Try.ntmps21
  go_wp2_with fail
  go_loopw [4] (fun x wr => ∃ k : Nat, x = .int .i64 k ∧ k ≤ l.length ∧ RFltAt wr b (((l.take k).flatMap ctrs).foldl upV c) ∧ Fr (fun r => r = b) (fun r => r = b) w wr) (fun x _ => l.length - (intOf x).toNat)
  case atStart => exact ⟨0, rfl, Nat.zero_le _, by simpa using hf, Fr.refl (D := fun r => r = b) (fun r (e : r = b) => by omega)⟩
  case round =>
    clear hf
    obtain ⟨k, rfl, hk, hfk, frk⟩ := hrel
    by_cases hkl : k < l.length
    · have hlt : decide (k < l.length) = true := by simpa using hkl
      obtain ⟨h, hh⟩ : ∃ h, l[k]? = some h := ⟨_, List.getElem?_eq_getElem hkl⟩
      have hne : l ≠ [] := fun e => by subst e; simp at hh
      have hI : IntsR wr (.slice p l.length cap) l := HL.out.kept (fun r hr => frk.block r (HL.out.lt hne hr) (HO.out r hr hne))
      obtain ⟨b', off, rfl, _, _, hcell⟩ := hI.get hh
      have h2 := two_any h wr
      have hT : ((l.take (k + 1)).flatMap ctrs).foldl upV c = (ctrs h).foldl upV (((l.take k).flatMap ctrs).foldl upV c) := by rw [take_next hh, List.foldl_append]
      have hu := up_any b _ (firstV h) (first_lt h) wr hfk
      have HF : Hid (Fr _ _ _ _) := frk
      generalize ((l.take k).flatMap ctrs).foldl upV c = d at *
      have HT : Hid (_ = _) := hT
      clear hT hI hh hne hfk frk hk
      go_wp2_with fail
      go_at_call 36
      refine Calls.mono h2 ?_
      clear h2
      rintro e w2 ⟨rfl, rfl⟩
      go_wp2_with fail
      go_at_call 38
      refine Calls.mono hu ?_
      clear hu hcell
      rintro e w3 ⟨⟨u, rfl⟩, hf3, fr3⟩
      by_cases hc : secondV h = firstV h
      · have hb : ((secondV h : Int) != (firstV h : Int)) = false := by simp [hc]
        have FIN : Hid (RFltAt w3 b (((l.take (k + 1)).flatMap ctrs).foldl upV c) ∧ Fr (fun r => r = b) (fun r => r = b) w w3) := ⟨by rw [HT.out, ctrs, if_pos hc]; exact hf3, HF.out.trans fr3⟩
        clear hc hf3 fr3 HT
        go_wp2
        go_roundw
        case rel => exact ⟨k + 1, by go_num, by omega, FIN.out⟩
        case measure => simp [intOf] <;> omega
      · have hb : ((secondV h : Int) != (firstV h : Int)) = true := bne_iff_ne.2 (by omega)
        have hu := up_any b _ (secondV h) (second_lt h) w3 hf3
        have HT2 : Hid (((l.take (k + 1)).flatMap ctrs).foldl upV c = upV (upV d (firstV h)) (secondV h)) := by rw [HT.out, ctrs, if_neg hc]; rfl
        have HF3 : Hid (Fr _ _ _ _) := HF.out.trans fr3
        clear hc hf3 fr3 HT HF
        go_wp2_with fail
        go_at_call 38
        refine Calls.mono hu ?_
        clear hu
        rintro e w4 ⟨⟨u2, rfl⟩, hf4, fr4⟩
        have FIN : Hid (RFltAt w4 b (((l.take (k + 1)).flatMap ctrs).foldl upV c) ∧ Fr (fun r => r = b) (fun r => r = b) w w4) := ⟨by rw [HT2.out]; exact hf4, HF3.out.trans fr4⟩
        clear hf4 fr4
        go_wp2
        go_roundw
        case rel => exact ⟨k + 1, by go_num, by omega, FIN.out⟩
        case measure => simp [intOf] <;> omega
    · have hlt : decide (k < l.length) = false := by simpa using hkl
      obtain rfl : k = l.length := by omega
      have FIN : Hid (RFltAt wr b (pushV c l) ∧ Fr (fun r => r = b) (fun r => r = b) w wr) := ⟨by rw [List.take_length] at hfk; exact hfk, frk⟩
      clear hk hkl hfk frk
      go_wp2
      go_end0
      exact ⟨⟨_, rfl⟩, FIN.out⟩

set_option maxRecDepth 100000 in
set_option maxHeartbeats 400000 in
theorem refPop_any (b : Nat) (c : Nat → Nat) (v : Value) (l : List Int) (w : World) (hf : RFltAt w b c) (hl : IntsR w v l) (ho : Off v l b) :
    Calls Try.prog 20 #[.pointer (some ⟨b, 0, none⟩), v] w fun e w' => (∃ u, e = .returned u) ∧ RFltAt w' b (popV c l) ∧ Fr (fun r => r = b) (fun r => r = b) w w' := by
  obtain ⟨p, cap, rfl⟩ := hl.len
  have hmx := hl.short
  unfold maxLen at hmx
  have HL : Hid (IntsR w (.slice p l.length cap) l) := hl
  have HO : Hid (Off (.slice p l.length cap) l b) := ho
  have hbl := hf.lt
  clear hl ho
  go_enter Try.func20, Try.ntmps20
  go_wp2_with fail
  go_loopw [4] (fun x wr => ∃ k : Nat, x = .int .i64 k ∧ k ≤ l.length ∧ RFltAt wr b (((l.take k).flatMap ctrs).foldl downV c) ∧ Fr (fun r => r = b) (fun r => r = b) w wr) (fun x _ => l.length - (intOf x).toNat)
  case atStart => exact ⟨0, rfl, Nat.zero_le _, by simpa using hf, Fr.refl (D := fun r => r = b) (fun r (e : r = b) => by omega)⟩
  case round =>
    clear hf
    obtain ⟨k, rfl, hk, hfk, frk⟩ := hrel
    by_cases hkl : k < l.length
    · have hlt : decide (k < l.length) = true := by simpa using hkl
      obtain ⟨h, hh⟩ : ∃ h, l[k]? = some h := ⟨_, List.getElem?_eq_getElem hkl⟩
      have hne : l ≠ [] := fun e => by subst e; simp at hh
      have hI : IntsR wr (.slice p l.length cap) l := HL.out.kept (fun r hr => frk.block r (HL.out.lt hne hr) (HO.out r hr hne))
      obtain ⟨b', off, rfl, _, _, hcell⟩ := hI.get hh
      have h2 := two_any h wr
      have hT : ((l.take (k + 1)).flatMap ctrs).foldl downV c = (ctrs h).foldl downV (((l.take k).flatMap ctrs).foldl downV c) := by rw [take_next hh, List.foldl_append]
      have hu := down_any b _ (firstV h) (first_lt h) wr hfk
      have HF : Hid (Fr _ _ _ _) := frk
      generalize ((l.take k).flatMap ctrs).foldl downV c = d at *
      have HT : Hid (_ = _) := hT
      clear hT hI hh hne hfk frk hk
      go_wp2_with fail
      go_at_call 36
      refine Calls.mono h2 ?_
      clear h2
      rintro e w2 ⟨rfl, rfl⟩
      go_wp2_with fail
      go_at_call 37
      refine Calls.mono hu ?_
      clear hu hcell
      rintro e w3 ⟨⟨u, rfl⟩, hf3, fr3⟩
      by_cases hc : secondV h = firstV h
      · have hb : ((secondV h : Int) != (firstV h : Int)) = false := by simp [hc]
        have FIN : Hid (RFltAt w3 b (((l.take (k + 1)).flatMap ctrs).foldl downV c) ∧ Fr (fun r => r = b) (fun r => r = b) w w3) := ⟨by rw [HT.out, ctrs, if_pos hc]; exact hf3, HF.out.trans fr3⟩
        clear hc hf3 fr3 HT
        go_wp2
        go_roundw
        case rel => exact ⟨k + 1, by go_num, by omega, FIN.out⟩
        case measure => simp [intOf] <;> omega
      · have hb : ((secondV h : Int) != (firstV h : Int)) = true := bne_iff_ne.2 (by omega)
        have hu := down_any b _ (secondV h) (second_lt h) w3 hf3
        have HT2 : Hid (((l.take (k + 1)).flatMap ctrs).foldl downV c = downV (downV d (firstV h)) (secondV h)) := by rw [HT.out, ctrs, if_neg hc]; rfl
        have HF3 : Hid (Fr _ _ _ _) := HF.out.trans fr3
        clear hc hf3 fr3 HT HF
        go_wp2_with fail
        go_at_call 37
        refine Calls.mono hu ?_
        clear hu
        rintro e w4 ⟨⟨u2, rfl⟩, hf4, fr4⟩
        have FIN : Hid (RFltAt w4 b (((l.take (k + 1)).flatMap ctrs).foldl downV c) ∧ Fr (fun r => r = b) (fun r => r = b) w w4) := ⟨by rw [HT2.out]; exact hf4, HF3.out.trans fr4⟩
        clear hf4 fr4
        go_wp2
        go_roundw
        case rel => exact ⟨k + 1, by go_num, by omega, FIN.out⟩
        case measure => simp [intOf] <;> omega
    · have hlt : decide (k < l.length) = false := by simpa using hkl
      obtain rfl : k = l.length := by omega
      have FIN : Hid (RFltAt wr b (popV c l) ∧ Fr (fun r => r = b) (fun r => r = b) w wr) := ⟨by rw [List.take_length] at hfk; exact hfk, frk⟩
      clear hk hkl hfk frk
      go_wp2
      go_end0
      exact ⟨⟨_, rfl⟩, FIN.out⟩

set_option maxRecDepth 100000 in
set_option maxHeartbeats 400000 in
theorem refMay_any (b : Nat) (c : Nat → Nat) (h : Int) (w : World) (hf : RFltAt w b c) :
    Calls Try.prog 23 #[.pointer (some ⟨b, 0, none⟩), .int .i64 h] w fun e w' => e = .returned (.bool (mayV c h)) ∧ w' = w := by
  obtain ⟨c1, _⟩ := hf.cell (first_lt h)
  obtain ⟨c2, _⟩ := hf.cell (second_lt h)
  have h2 := two_any h w
  have g1 := first_lt h
  have g2 := second_lt h
  have g1i : (firstV h : Int) < 1024 := by omega
  have g2i : (secondV h : Int) < 1024 := by omega
  have hm : mayV c h = (decide (0 < c (firstV h)) && decide (0 < c (secondV h))) := by
    unfold mayV ctrs
    by_cases e : secondV h = firstV h
    · rw [if_pos e, e]
      simp [Nat.pos_iff_ne_zero]
    · rw [if_neg e]
      simp [Nat.pos_iff_ne_zero]
  rw [hm]
  clear hf hm
  go_enter Try.func23, Try.ntmps23
  go_wp2_with fail
  go_at_call 36
  refine Calls.mono h2 ?_
  clear h2
  rintro e w2 ⟨rfl, rfl⟩
  by_cases h0 : 0 < c (firstV h)
  · have d0 : decide (0 < c (firstV h)) = true := by simpa using h0
    have d0' : decide (0 < ((c (firstV h) : Nat) : Int)) = true := by simp; omega
    clear h0
    go_wp2
    go_ret
    refine ⟨?_, rfl⟩
    rw [d0]
    simp
  · have d0 : decide (0 < c (firstV h)) = false := by simpa using h0
    have d0' : decide (0 < ((c (firstV h) : Nat) : Int)) = false := by simp; omega
    clear h0
    go_wp2
    go_ret
    refine ⟨?_, rfl⟩
    rw [d0]
    rfl

end Go.Proofs.Yteklgelmakbmcaa.Bl
