/- The declarations of tokens, in plain words over lists (chapter 6): no program in this text. -/
import Derived.Test.YtfbfgpgpccemkaaRsMem
import Derived.OwnWalk
import Derived.Deep.CutBlock
import Derived.Deep.DeepCutAuto
import Derived.Deep.RegionWith
import Derived.Test.YtfbfgpgpccemkaaBsE
import Derived.Test.YtfbfgpgpccemkaaAppSrc
import Derived.Laws.Rows
namespace Go.Proofs.Ytfbfgpgpccemkaa.Dc

/-! ### white at the ends -/
def isW (t : Bt) : Bool := t.kind == 9
/-- Without white at the beginning. -/
def dropW (l : List Bt) : List Bt := l.dropWhile isW
/-- Without white at the end. -/
def endW (l : List Bt) : List Bt := (l.reverse.dropWhile isW).reverse
theorem dropW_nil : dropW [] = [] := rfl
theorem dropW_yes {t : Bt} {l : List Bt} (h : t.kind = 9) : dropW (t :: l) = dropW l := by
  unfold dropW
  rw [List.dropWhile_cons, if_pos (by simp [isW, h])]
theorem dropW_no {t : Bt} {l : List Bt} (h : t.kind ≠ 9) : dropW (t :: l) = t :: l := by
  unfold dropW
  rw [List.dropWhile_cons, if_neg (by simp [isW, h])]
theorem endW_nil : endW [] = [] := rfl
theorem endW_yes {t : Bt} {l : List Bt} (h : t.kind = 9) : endW (l ++ [t]) = endW l := by
  unfold endW
  rw [List.reverse_append, List.reverse_singleton, List.singleton_append, List.dropWhile_cons, if_pos (by simp [isW, h])]
theorem endW_no {t : Bt} {l : List Bt} (h : t.kind ≠ 9) : endW (l ++ [t]) = l ++ [t] := by
  unfold endW
  rw [List.reverse_append, List.reverse_singleton, List.singleton_append, List.dropWhile_cons, if_neg (by simp [isW, h]), List.reverse_cons, List.reverse_reverse]
theorem dropW_len (l : List Bt) : (dropW l).length ≤ l.length := (List.dropWhile_sublist _).length_le
theorem endW_len (l : List Bt) : (endW l).length ≤ l.length := by
  unfold endW
  rw [List.length_reverse]
  have := (List.dropWhile_sublist isW (l := l.reverse)).length_le
  rwa [List.length_reverse] at this
theorem dropW_mem {l : List Bt} {t : Bt} (h : t ∈ dropW l) : t ∈ l := (List.dropWhile_sublist _).mem h
theorem endW_mem {l : List Bt} {t : Bt} (h : t ∈ endW l) : t ∈ l := by
  unfold endW at h
  rw [List.mem_reverse] at h
  exact List.mem_reverse.1 ((List.dropWhile_sublist _).mem h)
theorem split_last {l : List Bt} (h : l ≠ []) : ∃ a t, l = a ++ [t] := ⟨l.dropLast, l.getLast h, (List.dropLast_concat_getLast h).symm⟩
theorem endW_endW (l : List Bt) : endW (endW l) = endW l := by
  by_cases h : endW l = []
  · rw [h]
    rfl
  · obtain ⟨a, t, e⟩ := split_last h
    rw [e]
    apply endW_no
    intro h9
    unfold endW at e
    have e2 : l.reverse.dropWhile isW = t :: a.reverse := by
      have := congrArg List.reverse e
      simpa using this
    have := List.head?_dropWhile_not isW l.reverse
    rw [e2] at this
    simp [isW, h9] at this
/-- What stands at the end of what has no white at its beginning has none there either. -/
theorem endW_prefix (l : List Bt) : ∃ m, endW l = l.take m := by
  unfold endW
  obtain ⟨p, hp⟩ := List.dropWhile_suffix isW (l := l.reverse)
  generalize l.reverse.dropWhile isW = d at *
  have : l = d.reverse ++ p.reverse := by rw [← List.reverse_append, hp, List.reverse_reverse]
  exact ⟨d.length, by rw [this, List.take_append_of_le_length (by simp), List.take_of_length_le (by simp)]⟩
theorem dropW_take {l : List Bt} (h : dropW l = l) (m : Nat) : dropW (l.take m) = l.take m := by
  cases l with
  | nil => simp [dropW]
  | cons t r =>
    cases m with
    | zero => rfl
    | succ m =>
      rw [List.take_succ_cons]
      apply dropW_no
      intro h9
      rw [dropW_yes h9] at h
      have := dropW_len r
      rw [h] at this
      simp at this
      omega
theorem dropW_endW {l : List Bt} (h : dropW l = l) : dropW (endW l) = endW l := by
  obtain ⟨m, e⟩ := endW_prefix l
  rw [e]
  exact dropW_take h m
theorem dropW_dropW (l : List Bt) : dropW (dropW l) = dropW l := by
  induction l with
  | nil => rfl
  | cons t r ih =>
    by_cases h : t.kind = 9
    · rw [dropW_yes h, ih]
    · rw [dropW_no h, dropW_no h]

/-! ### lowered texts -/
def lowC (c : UInt8) : UInt8 := if 65 ≤ c.toNat ∧ c.toNat ≤ 90 then UInt8.ofNat (c.toNat + 32) else c
def lowT (s : ByteArray) : ByteArray := ⟨(s.data.toList.map lowC).toArray⟩
def importantT : ByteArray := ⟨#[105, 109, 112, 111, 114, 116, 97, 110, 116]⟩

/-! ### a declaration -/
structure Dc where
  name : ByteArray
  value : List Bt
  imp : Bool
deriving DecidableEq
/-- The last token that is not white, and what stands ahead of it. -/
def lastT (l : List Bt) : Option (List Bt × Bt) := (endW l).getLast?.map fun t => ((endW l).dropLast, t)
def isMarkWord (t : Bt) : Bool := t.kind == 1 && decide (lowT t.text = importantT)
def isMarkSign (t : Bt) : Bool := t.kind == 10 && t.c == 33
/-- The value without the mark at its end, and whether there is one. -/
def unmark (v : List Bt) : List Bt × Bool :=
  match lastT v with
  | none => (v, false)
  | some (a, w) => if isMarkWord w then
      match lastT a with
      | none => (v, false)
      | some (b, s) => if isMarkSign s then (endW b, true) else (v, false)
    else (v, false)
def declOf : List Bt → Option Dc
  | [] => none
  | t :: r => if t.kind = 1 then
      match dropW r with
      | [] => none
      | c :: v => if c.kind = 11 then some ⟨lowT t.text, (unmark (endW (dropW v))).1, (unmark (endW (dropW v))).2⟩ else none
    else none
theorem lastT_nil {l : List Bt} (h : endW l = []) : lastT l = none := by simp [lastT, h]
theorem lastT_some {l a : List Bt} {t : Bt} (h : endW l = a ++ [t]) : lastT l = some (a, t) := by simp [lastT, h]

/-! ### all -/
def isSemi (k : Int) : Bool := [12].contains k
def isEnd (k : Int) : Bool := [12, 14].contains k
def declsF : Nat → List Bt → List Dc
  | 0, _ => []
  | _ + 1, [] => []
  | f + 1, t :: r =>
    if t.kind = 9 ∨ t.kind = 12 then declsF f r
    else if t.kind = 2 then declsF f (r.drop (upto isEnd (kds r) + run [] ((kds r).drop (upto isEnd (kds r)))))
    else (declOf ((t :: r).take (upto isSemi (kds (t :: r))))).toList ++ declsF f ((t :: r).drop (upto isSemi (kds (t :: r))))
def decls (ts : List Bt) : List Dc := declsF ts.length ts
theorem isSemi_no {k : Int} (h : k ≠ 12) : isSemi k = false := by simp [isSemi, h]
theorem isSemi_yes : isSemi 12 = true := by decide
theorem upto_semi_pos {t : Bt} {r : List Bt} (h : t.kind ≠ 12) : 0 < upto isSemi (kds (t :: r)) := by
  rw [kds_cons, upto_cons, isSemi_no h, if_neg (by decide)]
  have := run_pos [] t.kind (kds r)
  omega
theorem declsF_more : ∀ (f g : Nat) (l : List Bt), l.length ≤ f → l.length ≤ g → declsF f l = declsF g l
  | 0, 0, _, _, _ => rfl
  | 0, g + 1, l, hf, _ => by
    have : l = [] := List.length_eq_zero_iff.1 (by omega)
    subst this
    rfl
  | f + 1, 0, l, _, hg => by
    have : l = [] := List.length_eq_zero_iff.1 (by omega)
    subst this
    rfl
  | f + 1, g + 1, [], _, _ => rfl
  | f + 1, g + 1, t :: r, hf, hg => by
    rw [List.length_cons] at hf hg
    have h1 := declsF_more f g r (by omega) (by omega)
    have h2 := declsF_more f g (r.drop (upto isEnd (kds r) + run [] ((kds r).drop (upto isEnd (kds r))))) (by rw [List.length_drop]; omega) (by rw [List.length_drop]; omega)
    simp only [declsF, h1, h2]
    split
    · rfl
    · rename_i h
      split
      · rfl
      · have hp := upto_semi_pos (r := r) (t := t) (by omega)
        rw [declsF_more f g ((t :: r).drop (upto isSemi (kds (t :: r)))) (by rw [List.length_drop, List.length_cons]; omega) (by rw [List.length_drop, List.length_cons]; omega)]
theorem decls_nil : decls [] = [] := rfl
theorem decls_pass {t : Bt} {r : List Bt} (h : t.kind = 9 ∨ t.kind = 12) : decls (t :: r) = decls r := by
  unfold decls
  rw [List.length_cons, declsF, if_pos h]
theorem decls_at {t : Bt} {r : List Bt} (h : t.kind = 2) : decls (t :: r) = decls (r.drop (upto isEnd (kds r) + run [] ((kds r).drop (upto isEnd (kds r))))) := by
  unfold decls
  rw [List.length_cons, declsF, if_neg (by omega), if_pos h]
  exact declsF_more _ _ _ (by rw [List.length_drop]; omega) (Nat.le_refl _)
theorem decls_one {t : Bt} {r : List Bt} (h9 : t.kind ≠ 9) (h12 : t.kind ≠ 12) (h2 : t.kind ≠ 2) :
    decls (t :: r) = (declOf ((t :: r).take (upto isSemi (kds (t :: r))))).toList ++ decls ((t :: r).drop (upto isSemi (kds (t :: r)))) := by
  have hp := upto_semi_pos (r := r) h12
  unfold decls
  rw [List.length_cons, declsF, if_neg (by omega), if_neg h2]
  congr 1
  exact declsF_more _ _ _ (by rw [List.length_drop, List.length_cons]; omega) (Nat.le_refl _)

end Go.Proofs.Ytfbfgpgpccemkaa.Dc

/- decl.afterWhite, decl.beforeWhite and the document's own trim, at every slice of tokens. -/
namespace Go.Proofs.Ytfbfgpgpccemkaa.Dc
open Go Go.RowKit Go.Shelf

def lenOf : Value → Nat
  | .slice _ n _ => n
  | _ => 0

end Go.Proofs.Ytfbfgpgpccemkaa.Dc
namespace Go.Proofs.Ytfbfgpgpccemkaa
open Go Go.RowKit Go.Shelf
/-- The first token, and the rest of a slice. -/
theorem BtsAt.first {n₀ : Nat} {X : World} {v : Value} {t : Bt} {r : List Bt} (h : BtsAt n₀ X v (t :: r)) :
    ∃ bk off cap, v = .slice (some ⟨bk, off, none⟩) (r.length + 1) cap ∧ r.length + 1 ≤ cap ∧ cap ≤ maxLen ∧ bk < n₀ ∧ BtAt X bk off t ∧ BtsAt n₀ X (.slice (if cap = 1 then some ⟨bk, off, none⟩ else some ⟨bk, off + 5, none⟩) r.length (cap - 1)) r := by
  rcases h with ⟨h, _⟩ | ⟨bk, off, cap, rfl, h1, h2, hb, h⟩
  · cases h
  · refine ⟨bk, off, cap, rfl, h1, h2, hb, by simpa using h 0 t rfl, ?_⟩
    rw [List.length_cons] at h1
    by_cases hc : cap = 1
    · have hr : r = [] := List.length_eq_zero_iff.1 (by omega)
      subst hr
      rw [if_pos hc]
      exact .inl ⟨rfl, .inr ⟨_, _, rfl, by omega⟩⟩
    · rw [if_neg hc]
      refine .inr ⟨bk, off + 5, cap - 1, rfl, by omega, by omega, hb, fun j u hj => ?_⟩
      have := h (j + 1) u (by simpa using hj)
      rwa [show off + (j + 1) * 5 = off + 5 + j * 5 by omega] at this
/-- The last token, and what stands ahead of it. -/
theorem BtsAt.last {n₀ : Nat} {X : World} {v : Value} {t : Bt} {r : List Bt} (h : BtsAt n₀ X v (r ++ [t])) :
    ∃ bk off cap, v = .slice (some ⟨bk, off, none⟩) (r.length + 1) cap ∧ r.length + 1 ≤ cap ∧ cap ≤ maxLen ∧ bk < n₀ ∧ BtAt X bk (off + r.length * 5) t ∧ BtsAt n₀ X (.slice (some ⟨bk, off, none⟩) r.length cap) r := by
  rcases h with ⟨h, _⟩ | ⟨bk, off, cap, rfl, h1, h2, hb, h⟩
  · simp at h
  · rw [List.length_append, List.length_singleton] at h1 ⊢
    refine ⟨bk, off, cap, rfl, h1, h2, hb, h r.length t (by simp), ?_⟩
    refine .inr ⟨bk, off, cap, rfl, by omega, h2, hb, fun j u hj => ?_⟩
    exact h j u (by rw [List.getElem?_append_left (List.getElem?_eq_some_iff.1 hj).1]; exact hj)
theorem BtsAt.empty {n₀ : Nat} {X : World} {v : Value} (h : BtsAt n₀ X v []) : ∃ p cap, v = .slice p 0 cap := by
  obtain ⟨p, cap, rfl⟩ := h.len
  exact ⟨p, cap, rfl⟩

end Go.Proofs.Ytfbfgpgpccemkaa
namespace Go.Proofs.Ytfbfgpgpccemkaa.Dc
open Go Go.RowKit Go.Shelf

set_option maxRecDepth 100000 in
set_option maxHeartbeats 1000000 in
theorem afterWhite_any (v : Value) (l : List Bt) (w : World) (n₀ : Nat) (hv : BtsAt n₀ w v l) :
    Calls Try.prog 28 #[v] w fun e w' => ∃ v', e = .returned v' ∧ BtsAt n₀ w v' (dropW l) ∧ w' = w := by
  obtain ⟨A, hA⟩ : ∃ A, dropW l = A := ⟨_, rfl⟩
  rw [hA]
  go_enter Try.func28, Try.ntmps28
  go_wp2
  go_loopw [0] (fun x wr => ∃ (l' : List Bt) (v' : Value), v' = x ∧ BtsAt n₀ w v' l' ∧ dropW l' = A ∧ wr = w) (fun x _ => lenOf x)
  case atStart => exact ⟨l, _, rfl, hv, hA, rfl⟩
  case round =>
    clear hA hv
    obtain ⟨l', v', rfl, hv, hA, rfl⟩ := hrel
    cases l' with
    | nil =>
      obtain rfl : [] = A := hA
      have hv2 := hv
      obtain ⟨p, cap, rfl⟩ := hv.empty
      clear hv
      go_wp2
      go_ret
      exact ⟨_, rfl, hv2, rfl⟩
    | cons t r =>
      obtain ⟨bk, off, cap, rfl, h1, h2, hb, ⟨hc, _⟩, hr⟩ := hv.first
      have hpos : (0 : Int) < (r.length : Int) + 1 := by omega
      have hcp : (1 : Int) ≤ (cap : Int) := by omega
      have hr1 : (1 : Int) ≤ (r.length : Int) + 1 := by omega
      unfold maxLen at h2
      have hr2 : ((r.length + 1 : Nat) : Int) ≤ (cap : Int) := by omega
      by_cases h9 : t.kind = 9
      · rw [h9] at hc
        have HA : Hid (dropW r = A) := by show _ = _; rw [← hA, dropW_yes h9]
        clear hA hv h9
        by_cases hc1 : cap = 1
        · subst hc1
          obtain rfl : r = [] := List.length_eq_zero_iff.1 (by omega)
          rw [if_pos rfl] at hr
          go_wp2
          exact ⟨⟨[], _, rfl, hr, HA, by first | rfl | trivial⟩, by simp [lenOf]⟩
        · rw [if_neg hc1] at hr
          go_wp2
          exact ⟨⟨r, _, rfl, hr, HA, by first | rfl | trivial⟩, by simp [lenOf]⟩
      · obtain rfl : t :: r = A := by rw [← hA, dropW_no h9]
        have h9' : (t.kind == 9) = false := by simpa using h9
        clear hA hr
        generalize t.kind = k at hc h9'
        clear h9
        go_wp2
        go_ret
        exact ⟨_, rfl, hv, rfl⟩

set_option maxRecDepth 100000 in
set_option maxHeartbeats 1000000 in
theorem beforeWhite_any (v : Value) (l : List Bt) (w : World) (n₀ : Nat) (hv : BtsAt n₀ w v l) :
    Calls Try.prog 30 #[v] w fun e w' => ∃ v', e = .returned v' ∧ BtsAt n₀ w v' (endW l) ∧ w' = w := by
  obtain ⟨A, hA⟩ : ∃ A, endW l = A := ⟨_, rfl⟩
  rw [hA]
  go_enter Try.func30, Try.ntmps30
  go_wp2
  go_loopw [0] (fun x wr => ∃ (l' : List Bt) (v' : Value), v' = x ∧ BtsAt n₀ w v' l' ∧ endW l' = A ∧ wr = w) (fun x _ => lenOf x)
  case atStart => exact ⟨l, _, rfl, hv, hA, rfl⟩
  case round =>
    clear hA hv
    obtain ⟨l', v', rfl, hv, hA, rfl⟩ := hrel
    by_cases hl : l' = []
    · subst hl
      obtain rfl : [] = A := hA
      have hv2 := hv
      obtain ⟨p, cap, rfl⟩ := hv.empty
      clear hv
      go_wp2
      go_ret
      exact ⟨_, rfl, hv2, rfl⟩
    · obtain ⟨r, t, rfl⟩ := split_last hl
      obtain ⟨bk, off, cap, rfl, h1, h2, hb, ⟨hc, _⟩, hr⟩ := hv.last
      clear hl
      unfold maxLen at h2
      have hpos : (0 : Int) < (r.length : Int) + 1 := by omega
      have hsub : IntKind.i64.wrap ((r.length : Int) + 1 - 1) = (r.length : Int) := by rw [IntKind.wrap_i64]; omega
      have hr1 : (r.length : Int) ≤ (cap : Int) := by omega
      have hr2 : ¬ cap = 0 := by omega
      by_cases h9 : t.kind = 9
      · rw [h9] at hc
        have HA : Hid (endW r = A) := by show _ = _; rw [← hA, endW_yes h9]
        clear hA hv h9
        go_wp2
        exact ⟨⟨r, _, rfl, hr, HA, by first | rfl | trivial⟩, by simp [lenOf]⟩
      · obtain rfl : r ++ [t] = A := by rw [← hA, endW_no h9]
        have h9' : (t.kind == 9) = false := by simpa using h9
        clear hA hr
        generalize t.kind = k at hc h9'
        clear h9
        go_wp2
        go_ret
        exact ⟨_, rfl, hv, rfl⟩

set_option maxRecDepth 100000 in
set_option maxHeartbeats 2000000 in
theorem trim_any (v : Value) (l : List Bt) (w : World) (n₀ : Nat) (hv : BtsAt n₀ w v l) :
    Calls Try.prog 34 #[v] w fun e w' => ∃ v', e = .returned v' ∧ BtsAt n₀ w v' (endW (dropW l)) ∧ w' = w := by
  obtain ⟨A, hA⟩ : ∃ A, dropW l = A := ⟨_, rfl⟩
  obtain ⟨B, hB⟩ : ∃ B, endW A = B := ⟨_, rfl⟩
  rw [hA, hB]
  go_enter Try.func34, Try.ntmps34
  go_upto_block 0 with fail
  go_cut [0] (fun x wx => BtsAt n₀ w x A ∧ w = wx)
  case first =>
    clear hB
    go_wp2_with fail
    go_loopw [0] (fun x wr => ∃ (l' : List Bt) (v' : Value), v' = x ∧ BtsAt n₀ w v' l' ∧ dropW l' = A ∧ wr = w) (fun x _ => lenOf x)
    case atStart => exact ⟨l, _, rfl, hv, hA, rfl⟩
    case round =>
      clear hA hv
      obtain ⟨l', v', rfl, hv, hA, rfl⟩ := hrel
      cases l' with
      | nil =>
        obtain rfl : [] = A := hA
        have hv2 := hv
        obtain ⟨p, cap, rfl⟩ := hv.empty
        clear hv
        go_wp2
        go_meet
        exact ⟨hv2, rfl⟩
      | cons t r =>
        obtain ⟨bk, off, cap, rfl, h1, h2, hb, ⟨hc, _⟩, hr⟩ := hv.first
        have hpos : (0 : Int) < (r.length : Int) + 1 := by omega
        have hcp : (1 : Int) ≤ (cap : Int) := by omega
        have hr1 : (1 : Int) ≤ (r.length : Int) + 1 := by omega
        unfold maxLen at h2
        have hr2 : ((r.length + 1 : Nat) : Int) ≤ (cap : Int) := by omega
        by_cases h9 : t.kind = 9
        · rw [h9] at hc
          have HA : Hid (dropW r = A) := by show _ = _; rw [← hA, dropW_yes h9]
          clear hA hv h9
          by_cases hc1 : cap = 1
          · subst hc1
            obtain rfl : r = [] := List.length_eq_zero_iff.1 (by omega)
            rw [if_pos rfl] at hr
            go_wp2
            first
              | exact ⟨⟨[], _, rfl, hr, HA, by first | rfl | trivial⟩, by simp [lenOf]⟩
              | (refine ⟨?_, by simp [lenOf]⟩
                 repeat apply Exists.intro
                 exact ⟨⟨[], _, rfl, hr, HA, by first | rfl | trivial⟩, rfl⟩)
          · rw [if_neg hc1] at hr
            go_wp2
            first
              | exact ⟨⟨r, _, rfl, hr, HA, by first | rfl | trivial⟩, by simp [lenOf]⟩
              | (refine ⟨?_, by simp [lenOf]⟩
                 repeat apply Exists.intro
                 exact ⟨⟨r, _, rfl, hr, HA, by first | rfl | trivial⟩, rfl⟩)
        · obtain rfl : t :: r = A := by rw [← hA, dropW_no h9]
          have h9' : (t.kind == 9) = false := by simpa using h9
          clear hA hr
          generalize t.kind = k at hc h9'
          clear h9
          go_wp2
          go_meet
          exact ⟨hv, rfl⟩
  case rest =>
    obtain ⟨hvA, rfl⟩ := hcut
    clear hv hA
    go_wp2_with fail
    rename_i x
    go_loopw [0] (fun x wr => ∃ (l' : List Bt) (v' : Value), v' = x ∧ BtsAt n₀ w v' l' ∧ endW l' = B ∧ wr = w) (fun x _ => lenOf x)
    case atStart => exact ⟨A, _, rfl, hvA, hB, rfl⟩
    case round =>
      clear hB hvA
      obtain ⟨l', v', rfl, hv, hA, rfl⟩ := hrel
      by_cases hl : l' = []
      · subst hl
        obtain rfl : [] = B := hA
        have hv2 := hv
        obtain ⟨p, cap, rfl⟩ := hv.empty
        clear hv
        go_wp2
        go_ret
        exact ⟨_, rfl, hv2, rfl⟩
      · obtain ⟨r, t, rfl⟩ := split_last hl
        obtain ⟨bk, off, cap, rfl, h1, h2, hb, ⟨hc, _⟩, hr⟩ := hv.last
        clear hl
        unfold maxLen at h2
        have hpos : (0 : Int) < (r.length : Int) + 1 := by omega
        have hsub : IntKind.i64.wrap ((r.length : Int) + 1 - 1) = (r.length : Int) := by rw [IntKind.wrap_i64]; omega
        have hr1 : (r.length : Int) ≤ (cap : Int) := by omega
        have hr2 : ¬ cap = 0 := by omega
        by_cases h9 : t.kind = 9
        · rw [h9] at hc
          have HA : Hid (endW r = B) := by show _ = _; rw [← hA, endW_yes h9]
          clear hA hv h9
          go_wp2
          exact ⟨⟨r, _, rfl, hr, HA, by first | rfl | trivial⟩, by simp [lenOf]⟩
        · obtain rfl : r ++ [t] = B := by rw [← hA, endW_no h9]
          have h9' : (t.kind == 9) = false := by simpa using h9
          clear hA hr
          generalize t.kind = k at hc h9'
          clear h9
          go_wp2
          go_ret
          exact ⟨_, rfl, hv, rfl⟩

end Go.Proofs.Ytfbfgpgpccemkaa.Dc

/- Slices of declarations in memory; decl.copied. -/
namespace Go.Proofs.Ytfbfgpgpccemkaa.Dc
open Go Go.RowKit Go.Shelf

theorem infoTk6 : (Try.prog.info? 36).map (fun i => (i.zero, i.size, i.bytes)) = some (some (.agg #[.int .i64 0, .string ⟨#[]⟩, .int .i64 0, .bool false, .int .i64 0]), 5, 48) := by kernel_rfl
theorem infoDecl : (Try.prog.info? 34).map (fun i => (i.zero, i.size, i.bytes)) = some (some (.agg #[.string ⟨#[]⟩, .slice none 0 0, .bool false]), 3, 48) := by kernel_rfl
theorem infoTkS : (Try.prog.info? 36).map (·.size) = some 5 := by kernel_rfl
theorem infoDeclS : (Try.prog.info? 34).map (·.size) = some 3 := by kernel_rfl
theorem btsCells_cell {ts : List Bt} {j : Nat} {u : Value} (h : (btsCells ts)[j]? = some u) : ∃ t, ts[j / 5]? = some t ∧ (btCells t)[j % 5]? = some u := by
  have hlt : j < (btsCells ts).length := (List.getElem?_eq_some_iff.1 h).1
  rw [btsCells_length] at hlt
  have hq : j / 5 < ts.length := by omega
  refine ⟨ts[j / 5], List.getElem?_eq_getElem hq, ?_⟩
  rw [← btsCells_at ts (j / 5) _ (List.getElem?_eq_getElem hq) (j % 5) (by omega), show j / 5 * 5 + j % 5 = j by omega]
  exact h
theorem btAt_cells {W : World} {bk o : Nat} {t : Bt} (h : BtAt W bk o t) {i : Nat} {u : Value} (hi : (btCells t)[i]? = some u) : W.cell? ⟨bk, o + i, none⟩ = some u := by
  obtain ⟨h0, h1, h2, h3, h4⟩ := h
  have : i = 0 ∨ i = 1 ∨ i = 2 ∨ i = 3 ∨ i = 4 := by
    have := (List.getElem?_eq_some_iff.1 hi).1
    simp [btCells] at this
    omega
  rcases this with rfl | rfl | rfl | rfl | rfl <;> (simp [btCells] at hi; subst hi; assumption)
/-- A slice of tokens as a source. -/
theorem btsSrc {n₀ : Nat} {X : World} {v : Value} {ts : List Bt} (h : BtsAt n₀ X v ts) :
    (v = .slice none 0 0 ∧ ts.length = 0) ∨ ∃ ad c, v = .slice (some ad) ts.length c ∧ ∀ j u, (btsCells ts)[j]? = some u → X.cell? (ad.add j) = some u := by
  rcases h with ⟨rfl, rfl | ⟨x, cap, rfl, _⟩⟩ | ⟨bk, off, cap, rfl, _, _, _, hc⟩
  · exact .inl ⟨rfl, rfl⟩
  · exact .inr ⟨x, cap, rfl, fun j u hj => by simp [btsCells] at hj⟩
  · refine .inr ⟨_, cap, rfl, fun j u hj => ?_⟩
    obtain ⟨t, ht, hi⟩ := btsCells_cell hj
    have := btAt_cells (hc _ t ht) hi
    rw [addr_add, show off + j = off + j / 5 * 5 + j % 5 by omega]
    exact this
theorem ints_new (W : World) (l : List Int) (t : TypeId) (hl : l.length ≤ 1000000) : IntsAt (W.heap.size + 1) (W.alloc (.cells (l.map (Value.int .i64)).toArray t)) (.slice (some ⟨W.heap.size, 0, none⟩) l.length l.length) l := by
  refine .inr ⟨W.heap.size, 0, l.length, rfl, Nat.le_refl _, by unfold maxLen; omega, by omega, fun j u hj => ?_⟩
  have := cells_new W (l.map (Value.int .i64)) t j (.int .i64 u) (by rw [List.getElem?_map, hj]; rfl)
  rwa [addr_add] at this
theorem below_next {w W W' : World} (h : Below w.heap.size w W) (hb : Below W.heap.size W W') : Below w.heap.size w W' := h.trans (hb.mono h.size)
theorem form_of {X : World} {b : Nat} {e : TypeId} {size : Nat} {v : Value} {m : Nat} {xs : List Value} (h : X.ownsRow b e size v m xs) : ∃ q c, v = .slice q m c := by
  rcases h.2 with ⟨rfl, h0⟩ | ⟨g, cap, cur, rfl, _⟩
  · exact ⟨none, 0, by rw [h0]⟩
  · exact ⟨_, _, rfl⟩
theorem upto_le' (p : Int → Bool) (ts : List Bt) : upto p (kds ts) ≤ ts.length := by
  have := upto_le p _ (kds ts) (Nat.le_refl _)
  rwa [kds_length] at this

set_option maxRecDepth 100000 in
set_option maxHeartbeats 1000000 in
theorem copied_any (v : Value) (ts : List Bt) (w : World) (hv : BtsAt w.heap.size w v ts) (hl : ts.length ≤ 1000000) :
    Calls Try.prog 32 #[v] w fun e w' => ∃ v', e = .returned v' ∧ w'.ownsRow w.heap.size 36 5 v' ts.length (btsCells ts) ∧ Below w.heap.size w w' := by
  obtain ⟨i0, hi, hz0, hz1, hz2⟩ := info_parts infoTk6
  have hsrc := btsSrc hv
  go_enter Try.func32, Try.ntmps32
  go_wp2_with (at_builtin; refine wpList_append_src _ rfl _ _ 22 rfl w.heap.size 36 i0 (.agg #[.int .i64 0, .string ⟨#[]⟩, .int .i64 0, .bool false, .int .i64 0]) 5 48 Try.underlying22 hi hz0 hz1 hz2 rfl (by decide) _ 0 [] rfl (World.ownsRow_nil _ _ _ _) _ ts.length (btsCells ts) rfl (btsCells_length ts) hsrc (btsCells_one ts) (by unfold maxLen; omega) (by omega) (Nat.le_refl _) ?_; intro v' w' hown' hgrow')
  go_ret
  refine ⟨_, rfl, by simpa using hown', (Below.refl _ w).grown hgrow' (Nat.le_refl _) (fun r e => by cases e)⟩

/-! ### a declaration, or a token, in a block of its own -/
/-- A block of cells. -/
def Blk (W : World) (B : Nat) (t : TypeId) (cs : List Value) : Prop := W.heap[B]? = some (.cells cs.toArray t (0, 0))
theorem Blk.lt {W : World} {B : Nat} {t : TypeId} {cs : List Value} (h : Blk W B t cs) : B < W.heap.size := (Array.getElem?_eq_some_iff.1 h).1
theorem Blk.kept {W W' : World} {row : Option Nat} {B : Nat} {t : TypeId} {cs : List Value} (h : Blk W B t cs) (hg : W.grownBy W' row) (hne : some B ≠ row) : Blk W' B t cs := (hg.block B h.lt hne).trans h
theorem Blk.below {W W' : World} {n : Nat} {B : Nat} {t : TypeId} {cs : List Value} (h : Blk W B t cs) (hb : Below n W W') (hn : B < n) : Blk W' B t cs := (hb.block B hn).trans h
theorem Blk.new (w : World) (t : TypeId) (cs : List Value) : Blk (w.alloc (.cells cs.toArray t)) w.heap.size t cs := heap_alloc_new w _
theorem blk3 {W : World} {B : Nat} {t : TypeId} {a b c : Value} (h : Blk W B t [a, b, c]) : (W.cell? ⟨B, 0, none⟩ = some a ∧ W.cell? ⟨B, 1, none⟩ = some b ∧ W.cell? ⟨B, 2, none⟩ = some c) ∧ W.frozen? ⟨B, 0, none⟩ = false ∧ W.frozen? ⟨B, 1, none⟩ = false ∧ W.frozen? ⟨B, 2, none⟩ = false := by
  simp [World.cell?, World.frozen?, show W.heap[B]? = _ from h]
def set3 (W : World) (B : Nat) (a b c : Value) : World := ((W.setCell ⟨B, 0, none⟩ a).setCell ⟨B, 1, none⟩ b).setCell ⟨B, 2, none⟩ c
theorem blk_set3 {W : World} {B : Nat} {t : TypeId} {a b c : Value} (h : Blk W B t [a, b, c]) (a' b' c' : Value) : Blk (set3 W B a' b' c') B t [a', b', c'] := by
  unfold Blk at h ⊢
  simp [set3, World.setCell, Array.getElem?_modify, h]
theorem blk5 {W : World} {B : Nat} {t : TypeId} {a b c d e : Value} (h : Blk W B t [a, b, c, d, e]) : (W.cell? ⟨B, 0, none⟩ = some a ∧ W.cell? ⟨B, 1, none⟩ = some b ∧ W.cell? ⟨B, 2, none⟩ = some c ∧ W.cell? ⟨B, 3, none⟩ = some d ∧ W.cell? ⟨B, 4, none⟩ = some e) ∧ W.frozen? ⟨B, 0, none⟩ = false ∧ W.frozen? ⟨B, 1, none⟩ = false ∧ W.frozen? ⟨B, 2, none⟩ = false ∧ W.frozen? ⟨B, 3, none⟩ = false ∧ W.frozen? ⟨B, 4, none⟩ = false := by
  simp [World.cell?, World.frozen?, show W.heap[B]? = _ from h]
def set5 (W : World) (B : Nat) (a b c d e : Value) : World := ((((W.setCell ⟨B, 0, none⟩ a).setCell ⟨B, 1, none⟩ b).setCell ⟨B, 2, none⟩ c).setCell ⟨B, 3, none⟩ d).setCell ⟨B, 4, none⟩ e
theorem blk_set5 {W : World} {B : Nat} {t : TypeId} {a b c d e : Value} (h : Blk W B t [a, b, c, d, e]) (a' b' c' d' e' : Value) : Blk (set5 W B a' b' c' d' e') B t [a', b', c', d', e'] := by
  unfold Blk at h ⊢
  simp [set5, World.setCell, Array.getElem?_modify, h]
theorem grown_set (W : World) (b i : Nat) (v : Value) : W.grownBy (W.setCell ⟨b, i, none⟩ v) (some b) :=
  ⟨rfl, rfl, rfl, by simp [World.setCell], fun i _ hne => Below.heap_setCell _ _ _ _ (fun e => hne (by rw [e]))⟩
theorem grown_set3 (W : World) (B : Nat) (a b c : Value) : W.grownBy (set3 W B a b c) (some B) := ((grown_set _ _ _ _).trans (grown_set _ _ _ _)).trans (grown_set _ _ _ _)
theorem grown_set5 (W : World) (B : Nat) (a b c d e : Value) : W.grownBy (set5 W B a b c d e) (some B) :=
  ((((grown_set _ _ _ _).trans (grown_set _ _ _ _)).trans (grown_set _ _ _ _)).trans (grown_set _ _ _ _)).trans (grown_set _ _ _ _)
theorem below_grown {n : Nat} {w X Y : World} {B : Nat} (h : Below n w X) (hg : X.grownBy Y (some B)) (hn : n ≤ X.heap.size) (hB : n ≤ B) : Below n w Y := h.grown hg hn (fun r e => by cases e; exact hB)
theorem load_decl {w : World} {g : Nat} {a b c : Value} (h : Blk w g 34 [a, b, c]) : (loadVar 34 ⟨g, 0, none⟩).run Try.prog w = .ok (.agg #[a, b, c]) w :=
  run_loadVar_row w g _ 34 #[a, b, c] (0, 0) _ h Try.underlying34 rfl infoDeclS
theorem load_tok {w : World} {g : Nat} {a b c d e : Value} (h : Blk w g 36 [a, b, c, d, e]) : (loadVar 36 ⟨g, 0, none⟩).run Try.prog w = .ok (.agg #[a, b, c, d, e]) w :=
  run_loadVar_row w g _ 36 #[a, b, c, d, e] (0, 0) _ h Try.underlying36 rfl infoTkS
/-- A struct and a value as results. -/
theorem results_struct_tmp {fn : Func} {p q : Tmp} {ty : TypeId} (h : fn.results = #[.cell p ty, .tmp q]) (tmps : Array Value) (w : World) (g : Nat) (x : Value)
    (hp : tmps.getD p undef = .pointer (some ⟨g, 0, none⟩)) (hl : (loadVar ty ⟨g, 0, none⟩).run Try.prog w = .ok x w) :
    (results fn tmps).run Try.prog w = .ok (.tuple #[x, tmps.getD q undef]) w := by
  have hp' : tmps[p]?.getD undef = .pointer (some ⟨g, 0, none⟩) := by simpa using hp
  simp [results, h, hp', asAddr, hl]
theorem results_tmp_struct {fn : Func} {p q : Tmp} {ty : TypeId} (h : fn.results = #[.tmp q, .cell p ty]) (tmps : Array Value) (w : World) (g : Nat) (x : Value)
    (hp : tmps.getD p undef = .pointer (some ⟨g, 0, none⟩)) (hl : (loadVar ty ⟨g, 0, none⟩).run Try.prog w = .ok x w) :
    (results fn tmps).run Try.prog w = .ok (.tuple #[tmps.getD q undef, x]) w := by
  have hp' : tmps[p]?.getD undef = .pointer (some ⟨g, 0, none⟩) := by simpa using hp
  simp [results, h, hp', asAddr, hl]

/-! ### declarations -/
def dcCells (q : Dc × Value) : List Value := [.string q.1.name, q.2, .bool q.1.imp]
/-- THE SLICE VALUE v HOLDS THE DECLARATIONS OF qs (each with its value's slice), all in blocks from b on that hold nothing else. -/
structure DcsAt (b : Nat) (W : World) (v : Value) (qs : List (Dc × Value)) : Prop where
  row : W.ownsRow b 34 3 v qs.length (qs.flatMap dcCells)
  each : ∀ q ∈ qs, W.ownsRow b 36 5 q.2 q.1.value.length (btsCells q.1.value)
theorem DcsAt.nil (b : Nat) (W : World) : DcsAt b W (.slice none 0 0) [] := ⟨World.ownsRow_nil _ _ _ _, fun _ h => by cases h⟩
/-- Rows of unlike types lie in unlike blocks. -/
theorem rows_apart {W : World} {b b' : Nat} {e e' : TypeId} (hne : e ≠ e') {s s' : Nat} {v v' : Value} {n n' : Nat} {xs xs' : List Value} (h : W.ownsRow b e s v n xs) (h' : W.ownsRow b' e' s' v' n' xs') : v.ownBlock = none ∨ v.ownBlock ≠ v'.ownBlock := by
  rcases h.2 with ⟨rfl, _⟩ | ⟨g, cap, cur, rfl, _, hb, _⟩
  · exact .inl rfl
  · right
    rcases h'.2 with ⟨rfl, _⟩ | ⟨g', cap', cur', rfl, _, hb', _⟩
    · simp [Value.ownBlock]
    · intro e2
      simp [Value.ownBlock] at e2
      subst e2
      rw [hb] at hb'
      injection hb' with hb'
      injection hb' with _ h2
      exact hne h2
theorem no_block (x : Value) : x.ownBlock = none ∨ x.ownBlock ≠ none := by
  cases x.ownBlock with
  | none => exact .inl rfl
  | some j => exact .inr (by simp)
theorem DcsAt.kept {b : Nat} {W W' : World} {v : Value} {qs : List (Dc × Value)} (h : DcsAt b W v qs) (g : W.grownBy W' none) : DcsAt b W' v qs :=
  ⟨h.row.kept g (no_block _), fun q hq => (h.each q hq).kept g (no_block _)⟩
/-- One declaration more. -/
theorem DcsAt.push {b : Nat} {W W' : World} {v v' : Value} {qs : List (Dc × Value)} {o : Obj} {q : Dc × Value} (h : DcsAt b W v qs)
    (h1 : W.ownsRow b 36 5 q.2 q.1.value.length (btsCells q.1.value))
    (hg : (W.alloc o).grownBy W' v.ownBlock) (hr : W'.ownsRow b 34 3 v' (qs.length + 1) (qs.flatMap dcCells ++ dcCells q)) : DcsAt b W' v' (qs ++ [q]) := by
  have keep : ∀ {x : Value} {n : Nat} {xs : List Value}, W.ownsRow b 36 5 x n xs → W'.ownsRow b 36 5 x n xs := fun hx =>
    (hx.alloc o).kept hg (rows_apart (e := 36) (e' := 34) (by decide) (hx.alloc o) (h.row.alloc o))
  refine ⟨?_, fun p hp => ?_⟩
  · rw [List.length_append, List.flatMap_append]
    simpa using hr
  · rcases List.mem_append.1 hp with hp | hp
    · exact keep (h.each p hp)
    · obtain rfl : p = q := by simpa using hp
      exact keep h1

end Go.Proofs.Ytfbfgpgpccemkaa.Dc
