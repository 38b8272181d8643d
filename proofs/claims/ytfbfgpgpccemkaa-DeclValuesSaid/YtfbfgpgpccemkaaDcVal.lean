/- One declaration whose value opens nothing: the lists' own fact of DeclValues. No program in this text. -/
import Derived.Test.YtfbfgpgpccemkaaBsF
namespace Go.Proofs.Ytfbfgpgpccemkaa.Dc

theorem upto_flat (p : Int → Bool) : ∀ (ks r : List Int), (∀ k ∈ ks, clos k = 0 ∧ p k = false) → upto p (ks ++ r) = ks.length + upto p r
  | [], r, _ => by simp
  | k :: ks, r, h => by
    have hk := h k List.mem_cons_self
    have e : run [] (k :: (ks ++ r)) = 1 := run_cons_nil _ (opn_nil hk.1)
    rw [List.cons_append, upto_cons, if_neg (by simp [hk.2]), e, List.drop_succ_cons, List.drop_zero, upto_flat p ks r (fun j hj => h j (List.mem_cons_of_mem _ hj)), List.length_cons]
    omega
/-- A token that opens nothing and is no semicolon. -/
def plainK (k : Int) : Prop := clos k = 0 ∧ k ≠ 12
theorem plainK_of {k : Int} (h12 : k ≠ 12) (h14 : k ≠ 14) (h16 : k ≠ 16) (h18 : k ≠ 18) (h20 : k ≠ 20) : plainK k := by
  refine ⟨?_, h12⟩
  rcases clos_cases k with h | h | h | h <;> omega
/-- Tokens that open nothing and have no semicolon are one declaration, or none. -/
theorem decls_plain {t : Bt} {r : List Bt} (h1 : t.kind = 1) (h : ∀ u ∈ r, plainK u.kind) : decls (t :: r) = (declOf (t :: r)).toList := by
  have hu : upto isSemi (kds (t :: r)) = (t :: r).length := by
    have := upto_flat isSemi (kds (t :: r)) [] (fun k hk => by
      obtain ⟨u, hu, rfl⟩ := List.mem_map.1 hk
      rcases List.mem_cons.1 hu with rfl | hu
      · rw [h1]; decide
      · exact ⟨(h u hu).1, isSemi_no (h u hu).2⟩)
    rw [List.append_nil, upto_nil, kds_length] at this
    omega
  rw [decls_one (by omega) (by omega) (by omega), hu, List.take_of_length_le (Nat.le_refl _), List.drop_eq_nil_iff.2 (Nat.le_refl _), decls_nil, List.append_nil]
def whiteT : Bt := ⟨9, ⟨#[]⟩, 0, false, 0⟩
def colonT : Bt := ⟨11, ⟨#[]⟩, 0, false, 0⟩
def bangT : Bt := ⟨10, ⟨#[]⟩, 0, false, 33⟩
def impT : Bt := ⟨1, ⟨#[73, 109, 112, 111, 114, 116, 97, 110, 84]⟩, 0, false, 0⟩
def onW (b : Bool) : List Bt := if b then [whiteT] else []
def onI (b : Bool) : List Bt := if b then [bangT, whiteT, impT, whiteT] else []
theorem onW_white (b : Bool) : ∀ u ∈ onW b, u.kind = 9 := by cases b <;> simp [onW, whiteT]
theorem dropW_onW (b : Bool) (l : List Bt) : dropW (onW b ++ l) = dropW l := by
  cases b
  · rfl
  · exact dropW_yes rfl
theorem endW_onW (b : Bool) (l : List Bt) : endW (l ++ onW b) = endW l := by
  cases b
  · simp [onW]
  · exact endW_yes rfl
/-- What the law wants of a value: no white at its ends, and no name at its end. -/
structure GoodV (v : List Bt) : Prop where
  plain : ∀ u ∈ v, plainK u.kind
  first : ∀ u r, v = u :: r → u.kind ≠ 9
  last : ∀ r u, v = r ++ [u] → u.kind ≠ 9 ∧ u.kind ≠ 1
theorem GoodV.dropW {v : List Bt} (h : GoodV v) (r : List Bt) : dropW (v ++ r) = if v = [] then Dc.dropW r else v ++ r := by
  cases v with
  | nil => rfl
  | cons u v => rw [if_neg (by simp), List.cons_append, dropW_no (h.first u v rfl)]
theorem GoodV.endW {v : List Bt} (h : GoodV v) : endW v = v := by
  by_cases e : v = []
  · rw [e]; rfl
  · obtain ⟨r, u, rfl⟩ := split_last e
    exact endW_no (h.last r u rfl).1
theorem imp_mark : isMarkWord impT = true := by decide +kernel
theorem bang_mark : isMarkSign bangT = true := by decide
theorem unmark_good {v : List Bt} (h : GoodV v) : unmark v = (v, false) := by
  by_cases e : v = []
  · rw [e]; rfl
  · obtain ⟨r, u, rfl⟩ := split_last e
    have h1 := (h.last r u rfl).2
    simp [unmark, lastT_some h.endW, isMarkWord, h1]
/-- With the mark behind it. -/
theorem unmark_imp (l : List Bt) : unmark (l ++ [bangT, whiteT, impT]) = (endW l, true) := by
  have e1 : endW (l ++ [bangT, whiteT, impT]) = (l ++ [bangT, whiteT]) ++ [impT] := by
    rw [show l ++ [bangT, whiteT, impT] = (l ++ [bangT, whiteT]) ++ [impT] by simp]
    exact endW_no (by decide)
  have e2 : endW (l ++ [bangT, whiteT]) = l ++ [bangT] := by
    rw [show l ++ [bangT, whiteT] = (l ++ [bangT]) ++ [whiteT] by simp, endW_yes rfl]
    exact endW_no (by decide)
  simp [unmark, lastT_some e1, lastT_some e2, imp_mark, bang_mark]
/-- THE FACT. -/
theorem decls_value {n : Bt} (hn : n.kind = 1) {v : List Bt} (h : GoodV v) (before behind important : Bool) :
    decls (n :: (onW before ++ colonT :: whiteT :: (v ++ (onW behind ++ onI important)))) = [⟨lowT n.text, v, important⟩] := by
  rw [decls_plain hn]
  · have hv : unmark (endW (dropW (whiteT :: (v ++ (onW behind ++ onI important))))) = (v, important) := by
      rw [dropW_yes rfl, h.dropW]
      cases important
      · simp only [onI, Bool.false_eq_true, if_false, List.append_nil]
        split
        · rename_i e
          subst e
          cases behind <;> rfl
        · rw [endW_onW, h.endW]
          exact unmark_good h
      · have hi : onI true = [bangT, whiteT, impT] ++ [whiteT] := rfl
        have e3 : ∀ l : List Bt, endW (l ++ ([bangT, whiteT, impT] ++ [whiteT])) = l ++ [bangT, whiteT, impT] := fun l => by
          rw [← List.append_assoc, endW_yes rfl, show l ++ [bangT, whiteT, impT] = (l ++ [bangT, whiteT]) ++ [impT] by simp]
          exact endW_no (by decide)
        rw [hi]
        split
        · rename_i e
          subst e
          rw [dropW_onW, show dropW ([bangT, whiteT, impT] ++ [whiteT]) = [] ++ ([bangT, whiteT, impT] ++ [whiteT]) from dropW_no (by decide), e3, unmark_imp]
          rfl
        · rw [← List.append_assoc, e3, unmark_imp, endW_onW, h.endW]
    have hd : declOf (n :: (onW before ++ colonT :: whiteT :: (v ++ (onW behind ++ onI important)))) = some ⟨lowT n.text, v, important⟩ := by
      have e : dropW (onW before ++ colonT :: whiteT :: (v ++ (onW behind ++ onI important))) = colonT :: whiteT :: (v ++ (onW behind ++ onI important)) := by
        rw [dropW_onW]
        exact dropW_no (by decide)
      simp only [declOf, hn, if_true, e, show colonT.kind = 11 from rfl, hv]
    rw [hd]
    rfl
  · intro u hu
    have hw : plainK 9 := ⟨by decide, by decide⟩
    simp only [List.mem_append, List.mem_cons] at hu
    rcases hu with hu | rfl | rfl | hu | hu | hu
    · rw [onW_white before u hu]; exact hw
    · exact ⟨by decide, by decide⟩
    · exact hw
    · exact h.plain u hu
    · rw [onW_white behind u hu]; exact hw
    · cases important
      · simp [onI] at hu
      · simp only [onI, if_true, List.mem_cons, List.not_mem_nil, or_false] at hu
        rcases hu with rfl | rfl | rfl | rfl <;> exact ⟨by decide, by decide⟩

end Go.Proofs.Ytfbfgpgpccemkaa.Dc
