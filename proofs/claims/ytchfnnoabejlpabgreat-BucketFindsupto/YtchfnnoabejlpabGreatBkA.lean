/- package bucket in plain words (chapter 12): buckets, rules by buckets, what a node finds. -/
import Derived.Test.YtchfnnoabejlpabGreatTre
import Derived.Lib.SlicesCompact
import Derived.Test.YtchfnnoabejlpabGreatSlG
import Derived.Test.YtchfnnoabejlpabGreatRgn
import Derived.Maps.OwnSet
import Derived.DeepKeys5
import Derived.Test.YtchfnnoabejlpabGreatWgMem
import Derived.Test.YtchfnnoabejlpabGreatShelf
namespace Go.Proofs.YtchfnnoabejlpabGreat.Bk
open Go.Proofs.YtchfnnoabejlpabGreat.Tre
open Go

abbrev Bkt := Nat × ByteArray
abbrev Rl := List Sel
abbrev Fm := Bkt → List Nat
def bktOf (c : Cp) : Bkt := match c.ids with
  | x :: _ => (3, x)
  | [] => match c.classes with
    | x :: _ => (2, x)
    | [] => if c.tag = ⟨#[]⟩ then (0, ⟨#[]⟩) else (1, c.tag)
/-- The bucket of a selector: none, if it has no parts. -/
def selB (s : Sel) : Option Bkt := s.getLast?.map (fun p => bktOf p.2)
/-- One more in a list, unless it stands at its end. -/
def addF (F : Fm) (rule : Nat) (b : Bkt) : Fm := fun b' => if b' = b then (if (F b).getLast? = some rule then F b else F b ++ [rule]) else F b'
def addS (F : Fm) (rule : Nat) (s : Sel) : Fm := match selB s with
  | some b => addF F rule b
  | none => F
def addR (F : Fm) (rule : Nat) (r : Rl) : Fm := r.foldl (fun F s => addS F rule s) F
def newAt : Fm → Nat → List Rl → Fm
  | F, _, [] => F
  | F, i, r :: l => newAt (addR F i r) (i + 1) l
def zeroF : Fm := fun _ => []
def newFm (l : List Rl) : Fm := newAt zeroF 0 l
/-- Has the rule a selector in the bucket b? -/
def inB (b : Bkt) (r : Rl) : Bool := r.any (fun s => decide (selB s = some b))
def hitB (bs : List Bkt) (r : Rl) : Bool := bs.any (fun b => inB b r)
/-- How many selectors stand in buckets. -/
def lenV (l : List Rl) : Nat := (l.map (fun r => (r.filter (fun s => !s.isEmpty)).length)).sum
/-- The rules that have a selector in one of these buckets, counted from i on. -/
def hitsAt (bs : List Bkt) : Nat → List Rl → List Nat
  | _, [] => []
  | i, r :: l => if hitB bs r then i :: hitsAt bs (i + 1) l else hitsAt bs (i + 1) l
def forV (l : List Rl) (bs : List Bkt) : List Nat := hitsAt bs 0 l

theorem selB_lt {s : Sel} {b : Bkt} (h : selB s = some b) : b.1 < 256 := by
  unfold selB at h
  obtain ⟨p, _, rfl⟩ := Option.map_eq_some_iff.1 h
  unfold bktOf
  split
  · show 3 < 256; omega
  · split
    · show 2 < 256; omega
    · split
      · show 0 < 256; omega
      · show 1 < 256; omega

/-! ### what is added -/
theorem addS_eq (F : Fm) (i : Nat) (s : Sel) (b : Bkt) (hF : ∀ b, ∀ x ∈ F b, x ≤ i) : ∀ x, x ∈ addS F i s b ↔ x ∈ F b ∨ (selB s = some b ∧ x = i) := by
  intro x
  unfold addS
  cases hs : selB s with
  | none => simp
  | some c =>
    simp only [addF]
    by_cases hb : b = c
    · subst hb
      rw [if_pos rfl]
      split
      · rename_i hl
        have hm : i ∈ F b := List.mem_of_getLast? hl
        constructor
        · exact .inl
        · rintro (h | ⟨_, rfl⟩)
          · exact h
          · exact hm
      · simp
    · rw [if_neg hb]
      have : ¬ (some c = some b) := fun e => hb (Option.some.inj e).symm
      simp [this]
theorem addS_le (F : Fm) (i : Nat) (s : Sel) (hF : ∀ b, ∀ x ∈ F b, x ≤ i) : ∀ b, ∀ x ∈ addS F i s b, x ≤ i := fun b x hx => by
  rcases (addS_eq F i s b hF x).1 hx with h | ⟨_, rfl⟩
  · exact hF b x h
  · exact Nat.le_refl _
theorem addR_mem : ∀ (r : Rl) (F : Fm) (i : Nat), (∀ b, ∀ x ∈ F b, x ≤ i) → (∀ b x, x ∈ addR F i r b ↔ x ∈ F b ∨ (inB b r = true ∧ x = i))
  | [], F, i, hF => fun b x => by simp [addR, inB]
  | s :: r, F, i, hF => fun b x => by
    have h1 := addR_mem r (addS F i s) i (addS_le F i s hF) b x
    have h2 := addS_eq F i s b hF x
    show x ∈ addR (addS F i s) i r b ↔ _
    rw [h1, h2]
    simp only [inB, List.any_cons, Bool.or_eq_true, decide_eq_true_eq]
    constructor
    · rintro ((h | ⟨h, e⟩) | ⟨h, e⟩)
      · exact .inl h
      · exact .inr ⟨.inl h, e⟩
      · exact .inr ⟨.inr h, e⟩
    · rintro (h | ⟨h | h, e⟩)
      · exact .inl (.inl h)
      · exact .inl (.inr ⟨h, e⟩)
      · exact .inr ⟨h, e⟩
theorem newAt_mem : ∀ (l : List Rl) (F : Fm) (i : Nat), (∀ b, ∀ x ∈ F b, x < i) → (∀ b x, x ∈ newAt F i l b ↔ x ∈ F b ∨ x ∈ hitsAt [b] i l)
  | [], F, i, _ => fun b x => by simp [newAt, hitsAt]
  | r :: l, F, i, hF => fun b x => by
    have h0 := addR_mem r F i (fun b x hx => Nat.le_of_lt (hF b x hx))
    have h1 := newAt_mem l (addR F i r) (i + 1) (fun b x hx => by
      rcases (h0 b x).1 hx with h | ⟨_, rfl⟩
      · have := hF b x h; omega
      · omega) b x
    show x ∈ newAt (addR F i r) (i + 1) l b ↔ _
    rw [h1, h0 b x]
    have hh : hitB [b] r = inB b r := by simp [hitB]
    rw [show hitsAt [b] i (r :: l) = if hitB [b] r then i :: hitsAt [b] (i + 1) l else hitsAt [b] (i + 1) l from rfl, hh]
    cases inB b r with
    | true => simp [or_assoc]
    | false => simp
theorem hits_mem (bs : List Bkt) : ∀ (l : List Rl) (i x : Nat), x ∈ hitsAt bs i l ↔ i ≤ x ∧ ∃ r, l[x - i]? = some r ∧ hitB bs r = true
  | [], i, x => by simp [hitsAt]
  | r :: l, i, x => by
    have ih := hits_mem bs l (i + 1) x
    unfold hitsAt
    by_cases hx : x = i
    · subst hx
      have : x ∉ hitsAt bs (x + 1) l := fun h => by have := (ih.1 h).1; omega
      cases hh : hitB bs r with
      | true => simp [hh]
      | false => simp [hh, this]
    · have e : (if hitB bs r = true then i :: hitsAt bs (i + 1) l else hitsAt bs (i + 1) l).contains x = (hitsAt bs (i + 1) l).contains x := by
        split
        · simp [hx]
        · rfl
      rw [← List.contains_iff_mem, e, List.contains_iff_mem, ih]
      constructor
      · rintro ⟨h1, r', h2, h3⟩
        refine ⟨by omega, r', ?_, h3⟩
        rw [show x - i = (x - (i + 1)) + 1 by omega]
        exact h2
      · rintro ⟨h1, r', h2, h3⟩
        refine ⟨by omega, r', ?_, h3⟩
        rw [show x - i = (x - (i + 1)) + 1 by omega] at h2
        exact h2
theorem newFm_mem (l : List Rl) (b : Bkt) (x : Nat) : x ∈ newFm l b ↔ x ∈ forV l [b] := by
  have := newAt_mem l zeroF 0 (fun _ _ h => by cases h) b x
  simpa [newFm, forV, zeroF] using this
theorem forV_mem (l : List Rl) (bs : List Bkt) (x : Nat) : x ∈ forV l bs ↔ ∃ r, l[x]? = some r ∧ hitB bs r = true := by
  have := hits_mem bs l 0 x
  simpa [forV] using this
theorem hits_rise (bs : List Bkt) : ∀ (l : List Rl) (i : Nat), (hitsAt bs i l).Pairwise (· < ·)
  | [], _ => List.Pairwise.nil
  | r :: l, i => by
    have ih := hits_rise bs l (i + 1)
    unfold hitsAt
    split
    · exact List.Pairwise.cons (fun x hx => by have := ((hits_mem bs l (i + 1) x).1 hx).1; omega) ih
    · exact ih
theorem forV_rise (l : List Rl) (bs : List Bkt) : (forV l bs).Pairwise (· < ·) := hits_rise bs l 0

/-! ### rising lists -/
theorem rise_eq : ∀ {a b : List Int}, a.Pairwise (· < ·) → b.Pairwise (· < ·) → (∀ x, x ∈ a ↔ x ∈ b) → a = b
  | [], [], _, _, _ => rfl
  | [], y :: b, _, _, h => absurd ((h y).2 (List.mem_cons_self ..)) (by simp)
  | x :: a, [], _, _, h => absurd ((h x).1 (List.mem_cons_self ..)) (by simp)
  | x :: a, y :: b, ha, hb, h => by
    rw [List.pairwise_cons] at ha hb
    have hxy : x = y := by
      rcases List.mem_cons.1 ((h x).1 (List.mem_cons_self ..)) with e | e
      · exact e
      · rcases List.mem_cons.1 ((h y).2 (List.mem_cons_self ..)) with e' | e'
        · exact e'.symm
        · have := hb.1 x e; have := ha.1 y e'; omega
    subst hxy
    congr 1
    refine rise_eq ha.2 hb.2 (fun z => ?_)
    have := h z
    constructor
    · intro hz
      rcases List.mem_cons.1 (this.1 (List.mem_cons_of_mem _ hz)) with e | e
      · have := ha.1 z hz; omega
      · exact e
    · intro hz
      rcases List.mem_cons.1 (this.2 (List.mem_cons_of_mem _ hz)) with e | e
      · have := hb.1 z hz; omega
      · exact e
/-- What compact leaves of a list's first places. -/
theorem compact_mem {α : Type} [Inhabited α] [DecidableEq α] (d : Array α) : ∀ (m : Nat), m ≤ d.size → ∀ x, x ∈ Lib.compactUpTo d m ↔ ∃ j, j < m ∧ d[j]! = x
  | 0, _ => fun x => by simp [Lib.compactUpTo]
  | m + 1, h => fun x => by
    rw [Lib.compactUpTo_succ, List.mem_append, compact_mem d m (by omega) x]
    constructor
    · rintro (⟨j, hj, e⟩ | h)
      · exact ⟨j, by omega, e⟩
      · split at h
        · rw [List.mem_singleton] at h
          exact ⟨m, by omega, h.symm⟩
        · cases h
    · rintro ⟨j, hj, e⟩
      by_cases hjm : j < m
      · exact .inl ⟨j, hjm, e⟩
      · obtain rfl : j = m := by omega
        by_cases hk : Lib.keeps d j = true
        · rw [if_pos hk]
          exact .inr (by rw [e]; exact List.mem_singleton.2 rfl)
        · left
          simp only [Lib.keeps, decide_eq_true_eq, not_or, ne_eq, Decidable.not_not] at hk
          exact ⟨j - 1, by omega, by rw [← e, hk.2]⟩
theorem compact_mem' {α : Type} [Inhabited α] [DecidableEq α] (l : List α) (x : α) : x ∈ Lib.compact l ↔ x ∈ l := by
  unfold Lib.compact
  rw [compact_mem l.toArray l.length (by simp) x, List.mem_iff_getElem]
  constructor
  · rintro ⟨j, hj, e⟩
    exact ⟨j, hj, by rw [← e, getElem!_pos l.toArray j (by simpa using hj)]; simp⟩
  · rintro ⟨j, hj, e⟩
    exact ⟨j, hj, by rw [← e, getElem!_pos l.toArray j (by simpa using hj)]; simp⟩
theorem compact_rise (d : Array Int) (hs : ∀ i j, i ≤ j → j < d.size → d[i]! ≤ d[j]!) : ∀ (m : Nat), m ≤ d.size → (Lib.compactUpTo d m).Pairwise (· < ·)
  | 0, _ => by simp [Lib.compactUpTo]
  | m + 1, h => by
    rw [Lib.compactUpTo_succ]
    have ih := compact_rise d hs m (by omega)
    split
    · rename_i hk
      rw [List.pairwise_append]
      refine ⟨ih, by simp, fun x hx y hy => ?_⟩
      rw [List.mem_singleton] at hy
      subst hy
      obtain ⟨j, hj, rfl⟩ := (compact_mem d m (by omega) x).1 hx
      simp only [Lib.keeps, decide_eq_true_eq] at hk
      have h1 := hs j (m - 1) (by omega) (by omega)
      have h2 := hs (m - 1) m (by omega) (by omega)
      rcases hk with hk | hk
      · omega
      · omega
    · simpa using ih
theorem compact_sorted (l : List Int) : (Lib.compact (l.mergeSort fun x y => decide (x ≤ y))).Pairwise (· < ·) := by
  unfold Lib.compact
  have hs := List.pairwise_mergeSort (le := fun x y : Int => decide (x ≤ y)) (fun a b c h1 h2 => by simp at *; omega) (fun a b => by simp; omega) l
  generalize (l.mergeSort fun x y => decide (x ≤ y)) = L at *
  refine compact_rise L.toArray (fun i j hij hj => ?_) L.length (by simp)
  have hj' : j < L.length := by simpa using hj
  rw [getElem!_pos L.toArray i (by simp; omega), getElem!_pos L.toArray j (by simpa using hj)]
  by_cases e : i = j
  · subst e; exact Int.le_refl _
  · have := (List.pairwise_iff_getElem.1 hs) i j (by omega) hj' (by omega)
    simpa using this
/-- WHAT For TELLS: the lists of all buckets, sorted, each once. -/
theorem for_plain (l : List Rl) (bs : List Bkt) : Lib.compact (((bs.flatMap (newFm l)).map (fun x : Nat => (x : Int))).mergeSort fun x y => decide (x ≤ y)) = (forV l bs).map (fun x : Nat => (x : Int)) := by
  refine rise_eq (compact_sorted _) ?_ (fun x => ?_)
  · rw [List.pairwise_map]
    exact (forV_rise l bs).imp (fun h => by omega)
  · rw [compact_mem', List.mem_mergeSort, List.mem_map, List.mem_map]
    constructor
    · rintro ⟨y, hy, rfl⟩
      obtain ⟨b, hb, hy⟩ := List.mem_flatMap.1 hy
      obtain ⟨r, h1, h2⟩ := (forV_mem l [b] y).1 ((newFm_mem l b y).1 hy)
      refine ⟨y, (forV_mem l bs y).2 ⟨r, h1, ?_⟩, rfl⟩
      simp only [hitB, List.any_cons, List.any_nil, Bool.or_false] at h2
      exact List.any_eq_true.2 ⟨b, hb, h2⟩
    · rintro ⟨y, hy, rfl⟩
      obtain ⟨r, h1, h2⟩ := (forV_mem l bs y).1 hy
      obtain ⟨b, hb, h2⟩ := List.any_eq_true.1 h2
      exact ⟨y, List.mem_flatMap.2 ⟨b, hb, (newFm_mem l b y).2 ((forV_mem l [b] y).2 ⟨r, h1, by simpa [hitB] using h2⟩)⟩, rfl⟩

/-! ### few -/
theorem addS_len (F : Fm) (i : Nat) (s : Sel) (b : Bkt) : (addS F i s b).length ≤ (F b).length + 1 := by
  unfold addS
  cases selB s with
  | none => exact Nat.le_succ _
  | some c =>
    simp only [addF]
    by_cases h : b = c
    · subst h
      rw [if_pos rfl]
      split
      · omega
      · simp
    · rw [if_neg h]
      omega

end Go.Proofs.YtchfnnoabejlpabGreat.Bk

/- package bucket: a map of lists in memory. -/
namespace Go.Proofs.YtchfnnoabejlpabGreat.Bk
open Go.Proofs.YtchfnnoabejlpabGreat.Tre
open Go Go.RowKit Sl

/-! ### keys -/
def held (v : Value) : Option (DataW Value × List MemPlace) := some (.held v, [])
def keyB (b : Bkt) : Lit := .string (keyBytes [.int .u8 b.1, .string b.2.data.toList])
def OkB (b : Bkt) : Prop := b.1 < 256 ∧ b.2.size ≤ maxLen
def bkV (b : Bkt) : Value := .agg #[.int .u8 b.1, .string b.2]
theorem mapLaid : laidOutB Tryz.prog = true := by kernel_rfl
theorem keyT : Tryz.prog.keyType 65 = true := by kernel_rfl
theorem typesFew : decide (Tryz.prog.types.size + 2 ≤ 10000) = true := by kernel_rfl
theorem bktLt : decide (65 < Tryz.prog.types.size) = true := by kernel_rfl
theorem bktKeyed : Maps.Keyed Tryz.prog 65 := Maps.Keyed.of_law (deep_law_gate mapLaid (of_decide_eq_true typesFew) (of_decide_eq_true bktLt) keyT (by rw [Tryz.underlying65]))
theorem zeroRow (w : World) : (zeroValue 32).run Tryz.prog w = .ok (.slice none 0 0) w := by kernel_rfl
theorem wf8 {k : Nat} (h : k < 256) : (Lit.int .u8 (k : Int)).wf = true := by
  match k, h with
  | k, h =>
    have : ∀ k : Fin 256, (Lit.int .u8 ((k.val : Nat) : Int)).wf = true := by decide +kernel
    exact this ⟨k, h⟩
theorem cellsBkt : Tryz.prog.cellsOf 65 = 2 := by kernel_rfl
theorem cellsK : Tryz.prog.cellsOf 63 = 1 := by kernel_rfl
theorem cellsS : Tryz.prog.cellsOf 9 = 1 := by kernel_rfl
theorem keyB_of {b : Bkt} (hb : OkB b) : keyOf Tryz.prog 65 (bkV b) = some (keyB b) := by
  have hsz : ∃ m, Tryz.prog.types.size = m + 1 := ⟨_, rfl⟩
  obtain ⟨m, hm⟩ := hsz
  unfold keyOf bkV
  simp only [Tryz.underlying65]
  rw [if_pos (by simp [keyT, Value.formed, Tryz.underlying65, cellsBkt]), hm]
  unfold Program.keyLits
  simp only [Tryz.underlying65, Value.cells]
  rw [if_pos (by rw [cellsBkt]; exact ⟨rfl, by decide +kernel⟩)]
  simp [List.mapM_cons, cellsK, cellsS, Program.keyLits, Tryz.underlying63, Tryz.underlying9, wf8 hb.1, hb.2, keyB]
theorem keyB_inj {b c : Bkt} (hb : OkB b) (hc : OkB c) (h : keyB b = keyB c) : b = c := by
  have e := bktKeyed.inj (keyB_of hb) (by rw [keyB_of hc, h])
  simp [bkV] at e
  exact Prod.ext (by omega) e.2
theorem keyB_lit {b : Bkt} (hb : OkB b) : WideAt.IsKeyLit (keyB b) := bktKeyed.key (keyB_of hb)

/-! ### the map -/
abbrev Gh := Nat → Option Bkt
def nats (l : List Nat) : List Value := l.map (fun x : Nat => Value.int .i64 (x : Int))
/-- What the map tells of a bucket. -/
def Cell (n₀ : Nat) (γ : Gh) (W : World) (D : DataW Value) (F : Fm) (b : Bkt) : Prop :=
  (F b = [] ∧ Maps.has D (keyB b) = false) ∨ ∃ v B, F b ≠ [] ∧ D.atKey (keyB b) (.held (.slice none 0 0)) = .held v ∧ v.ownBlock = some B ∧ γ B = some b ∧ W.ownsRow n₀ 3 1 v (F b).length (nats (F b))
structure Mp (n₀ : Nat) (γ : Gh) (W : World) (M cnt : Nat) (F : Fm) : Prop where
  d : ∃ D, W.ownsMap Tryz.prog 65 held M cnt D ∧ ∀ b, OkB b → Cell n₀ γ W D F b
  lo : n₀ ≤ M
  no : γ M = none
  gl : ∀ B b, γ B = some b → n₀ ≤ B ∧ B < W.heap.size
  few : ∀ b, (F b).length ≤ cnt
theorem Mp.lt {n₀ : Nat} {γ : Gh} {W : World} {M cnt : Nat} {F : Fm} (h : Mp n₀ γ W M cnt F) : M < W.heap.size := by
  obtain ⟨D, hD, _⟩ := h.d
  exact hD.lt
theorem owns_at {W X : World} {M n : Nat} {D : DataW Value} (h : W.ownsMap Tryz.prog 65 held M n D) (e : X.heap[M]? = W.heap[M]?) : X.ownsMap Tryz.prog 65 held M n D := by
  obtain ⟨es, clock, h0, h1⟩ := h
  exact ⟨es, clock, e.trans h0, h1⟩
/-- Blocks that are not the map's may turn. -/
theorem Mp.kept {n₀ : Nat} {γ : Gh} {W X : World} {M cnt : Nat} {F : Fm} (h : Mp n₀ γ W M cnt F) (hs : W.heap.size ≤ X.heap.size) (hM : X.heap[M]? = W.heap[M]?) (hB : ∀ B b, γ B = some b → X.heap[B]? = W.heap[B]?) : Mp n₀ γ X M cnt F := by
  obtain ⟨D, hD, hc⟩ := h.d
  refine ⟨⟨D, owns_at hD hM, fun b hb => ?_⟩, h.lo, h.no, fun B b hb => ⟨(h.gl B b hb).1, Nat.lt_of_lt_of_le (h.gl B b hb).2 hs⟩, h.few⟩
  rcases hc b hb with h1 | ⟨v, B, h1, h2, h3, h4, h5⟩
  · exact .inl h1
  · exact .inr ⟨v, B, h1, h2, h3, h4, owns_same h5 (fun g hg => by rw [h3] at hg; cases hg; exact hB _ _ h4)⟩
theorem Mp.next {n₀ : Nat} {γ : Gh} {W X : World} {M cnt : Nat} {F : Fm} (h : Mp n₀ γ W M cnt F) (hb : Below W.heap.size W X) : Mp n₀ γ X M cnt F :=
  h.kept hb.size (hb.block M h.lt) (fun B b e => hb.block B (h.gl B b e).2)
/-- An empty map. -/
theorem Mp.made (W : World) : Mp W.heap.size (fun _ => none) (W.alloc (.map #[] 0)) W.heap.size 0 zeroF :=
  ⟨⟨_, World.ownsMap_made W Tryz.prog 65 held, fun b _ => .inl ⟨rfl, by simp [Maps.has]⟩⟩, Nat.le_refl _, rfl, fun _ _ h => (by cases h), fun _ => Nat.le_refl _⟩
/-- What the map tells at a bucket. -/
theorem Mp.look {n₀ : Nat} {γ : Gh} {W : World} {M cnt : Nat} {F : Fm} (h : Mp n₀ γ W M cnt F) (b : Bkt) (hb : OkB b) :
    ∃ v, (∀ n, (Instr.lookup 57 (.map (some M)) (bkV b) false).run Tryz.prog (W.drewN n) = .ok v (W.drewN n)) ∧ W.ownsRow n₀ 3 1 v (F b).length (nats (F b)) ∧ (∀ B, v.ownBlock = some B → γ B = some b) ∧ (F b = [] → v = .slice none 0 0) := by
  obtain ⟨D, hD, hc⟩ := h.d
  have run : ∀ n, ∃ v ps, (Instr.lookup 57 (.map (some M)) (bkV b) false).run Tryz.prog (W.drewN n) = .ok v (W.drewN n) ∧ held v = some (D.atKey (keyB b) (.held (.slice none 0 0)), ps) := fun n =>
    World.ownsMap.lookup (owns_at hD (X := W.drewN n) rfl) bktKeyed Tryz.underlying57 (zeroRow _) (zd := .held (.slice none 0 0)) (zp := []) rfl (keyB_of hb)
  have hk2 : ∀ {v ps d}, held v = some (d, ps) → d = .held v := fun h => by
    unfold held at h
    simp at h
    exact h.1.symm
  rcases hc b hb with ⟨h1, h2⟩ | ⟨v, B, h1, h2, h3, h4, h5⟩
  · refine ⟨.slice none 0 0, fun n => ?_, by rw [h1]; exact World.ownsRow_nil W n₀ 3 1, fun B e => by simp [Value.ownBlock] at e, fun _ => rfl⟩
    obtain ⟨v, ps, hr, hv⟩ := run n
    have e := hk2 hv
    rw [Maps.atKey_of_not_has h2] at e
    have e2 : Value.slice none 0 0 = v := DataW.held.inj e
    rw [e2]; exact hr
  · refine ⟨v, fun n => ?_, h5, fun B' e => by rw [h3] at e; cases e; exact h4, fun e => absurd e h1⟩
    obtain ⟨v', ps, hr, hv⟩ := run n
    have e := hk2 hv
    rw [h2] at e
    have e2 : v = v' := DataW.held.inj e
    rw [e2]; exact hr
/-- A list that was put at a bucket. -/
theorem Mp.put {n₀ : Nat} {γ : Gh} {W X : World} {M cnt : Nat} {F : Fm} (h : Mp n₀ γ W M cnt F) (b : Bkt) (hb : OkB b) (hcnt : cnt < maxLen) (hs : W.heap.size ≤ X.heap.size) (hM : X.heap[M]? = W.heap[M]?) (hO : ∀ B b', γ B = some b' → b' ≠ b → X.heap[B]? = W.heap[B]?)
    {v : Value} {B : Nat} {l : List Nat} (hl : l ≠ []) (hll : l.length ≤ cnt + 1) (hv : v.ownBlock = some B) (hB : γ B = some b ∨ W.heap.size ≤ B) (hBM : B ≠ M) (hrow : X.ownsRow n₀ 3 1 v l.length (nats l)) :
    ∃ X', (Instr.mapUpdate 57 (.map (some M)) (bkV b) v).run Tryz.prog X = .ok () X' ∧ X.grownBy X' (some M) ∧ Mp n₀ (fun k => if k = B then some b else γ k) X' M (cnt + 1) (fun b' => if b' = b then l else F b') := by
  obtain ⟨D, hD, hc⟩ := h.d
  obtain ⟨X', hrun, hown, hg⟩ := (owns_at hD hM).update bktKeyed Tryz.underlying57 hcnt (keyB_of hb) (d := .held v) (ps := []) rfl
  have hBlt := (owns_lt hrow hv).2
  refine ⟨X', hrun, hg, ⟨_, hown, fun b' hb' => ?_⟩, h.lo, ?_, fun B' b' e => ?_, fun b' => ?_⟩
  · by_cases e : b' = b
    · subst e
      refine .inr ⟨v, B, by show (if b' = b' then l else F b') ≠ []; rw [if_pos rfl]; exact hl, Maps.atKey_put_same (owns_at hD hM).isMap (keyB_lit hb) _ _, hv, if_pos rfl, ?_⟩
      show X'.ownsRow n₀ 3 1 v (if b' = b' then l else F b').length (nats (if b' = b' then l else F b'))
      rw [if_pos rfl]
      exact owns_same hrow (fun g hg' => by rw [hv] at hg'; cases hg'; exact hg.block _ hBlt (fun e => hBM (by cases e; rfl)))
    · have hk : keyB b' ≠ keyB b := fun e' => e (keyB_inj hb' hb e')
      have ef : (fun b' => if b' = b then l else F b') b' = F b' := if_neg e
      unfold Cell
      rw [ef]
      rcases hc b' hb' with ⟨h1, h2⟩ | ⟨v', B', h1, h2, h3, h4, h5⟩
      · exact .inl ⟨h1, by rw [Maps.has_put_other hk]; exact h2⟩
      · have hBB : B' ≠ B := fun e' => by
          subst e'
          rcases hB with hB | hB
          · rw [hB] at h4; cases h4; exact e rfl
          · have := (h.gl _ _ h4).2; omega
        refine .inr ⟨v', B', h1, by rw [Maps.atKey_put_other hk]; exact h2, h3, (if_neg hBB).trans h4, owns_same h5 (fun g hg' => ?_)⟩
        rw [h3] at hg'
        cases hg'
        have hne : B' ≠ M := fun e' => by subst e'; rw [h.no] at h4; cases h4
        exact (hg.block _ (Nat.lt_of_lt_of_le (h.gl _ _ h4).2 hs) (fun e' => hne (by cases e'; rfl))).trans (hO _ _ h4 e)
  · show (if M = B then some b else γ M) = none
    rw [if_neg (fun e => hBM e.symm)]
    exact h.no
  · have hsz := hg.size
    by_cases e' : B' = B
    · subst e'
      have := (owns_lt hrow hv).1
      exact ⟨this, by omega⟩
    · rw [if_neg e'] at e
      have := h.gl _ _ e
      exact ⟨this.1, by omega⟩
  · show (if b' = b then l else F b').length ≤ cnt + 1
    split
    · exact hll
    · have := h.few b'; omega

end Go.Proofs.YtchfnnoabejlpabGreat.Bk

/- package bucket: lists.add. -/
namespace Go.Proofs.YtchfnnoabejlpabGreat.Bk
open Go.Proofs.YtchfnnoabejlpabGreat.Tre
open Go Go.RowKit Sl

theorem infoI : (Tryz.prog.info? 3).map (fun i => (i.zero, i.size, i.bytes)) = some (some (.int .i64 0), 1, 8) := by kernel_rfl
theorem info_of {e : TypeId} {z : Value} {s b : Nat} (h : (Tryz.prog.info? e).map (fun i => (i.zero, i.size, i.bytes)) = some (some z, s, b)) : ∃ i, Tryz.prog.info? e = some i ∧ i.zero = some z ∧ i.size = s ∧ i.bytes = b := by
  obtain ⟨i, hi, e⟩ := Option.map_eq_some_iff.1 h
  simp only [Prod.mk.injEq] at e
  exact ⟨i, hi, e.1, e.2.1, e.2.2⟩
theorem Mp.more {n₀ : Nat} {γ : Gh} {W : World} {M cnt : Nat} {F : Fm} (h : Mp n₀ γ W M cnt F) : Mp n₀ γ W M (cnt + 1) F := by
  obtain ⟨D, hD, hc⟩ := h.d
  exact ⟨⟨D, hD.mono (Nat.le_succ _), hc⟩, h.lo, h.no, h.gl, fun b => Nat.le_succ_of_le (h.few b)⟩
theorem addr0 (g k : Nat) : (⟨g, 0, none⟩ : Addr).add k = ⟨g, k, none⟩ := by
  unfold Addr.add
  by_cases h : k = 0
  · subst h; rfl
  · simp [h]
theorem nats_app (l : List Nat) (x : Nat) : nats l ++ [.int .i64 (x : Int)] = nats (l ++ [x]) := by simp [nats]
theorem addF_same {F : Fm} {rule : Nat} {b : Bkt} (h : (F b).getLast? = some rule) : addF F rule b = F := by
  funext b'
  unfold addF
  by_cases e : b' = b
  · rw [if_pos e, if_pos h, e]
  · rw [if_neg e]
theorem addF_more {F : Fm} {rule : Nat} {b : Bkt} (h : (F b).getLast? ≠ some rule) : addF F rule b = fun b' => if b' = b then F b ++ [rule] else F b' := by
  funext b'
  unfold addF
  rw [if_neg h]
/-- append in a region that draws, where its run is known. -/
theorem step_append_run {P : Program} {ops : Array Oper} {Q : Exit → Act → World → Prop} {o : Oper} {a : Act} {w w' : World} {K : Act → World → Prop} {E : Prop} (hgd : o.guard = none) (s x : Operand) (t : TypeId)
    (ho : o.op = .call { callee := .builtin .append, args := #[s, x], argTypes := #[t, t] }) {v xv v' : Value} (hs : a.eval s = v) (hx : a.eval x = xv) (hrun : (Builtin.append_ #[t, t] o.type #[v, xv]).run P w = .ok v' w')
    (h : K (a.put o.dst v') w') : if Region.wanted o (yielded ops a.tmps) = true then Oper.wp P o a w K Q else E := by
  have hw : Region.wanted o (yielded ops a.tmps) = true := by simp [Region.wanted, hgd]
  rw [if_pos hw]
  unfold Oper.wp
  simp [execOp, ho, resolve, invoke, builtin, hs, hx, hrun, Result.andThen]
  exact h
/-- What lists.add leaves. -/
def Added (n₀ : Nat) (γ : Gh) (W : World) (M cnt : Nat) (F : Fm) (W' : World) : Prop :=
  ∃ γ', Mp n₀ γ' W' M (cnt + 1) F ∧ Kept (fun k => k ≠ M ∧ γ k = none) W W' ∧ ∀ k, k < W.heap.size → γ k = none → γ' k = none

set_option maxRecDepth 100000 in
set_option maxHeartbeats 2000000 in
/-- The last region of lists.add, by plain steps: what append and the map's update do. -/
theorem add_more {n₀ : Nat} {γ : Gh} {W : World} {M cnt : Nat} {F : Fm} (h : Mp n₀ γ W M cnt F) (b : Bkt) (hb : OkB b) (rule : Nat) (hcnt : cnt ≤ 1099511627776) (hn : n₀ ≤ W.heap.size) (hne : (F b).getLast? ≠ some rule) {v : Value}
    (hrow : W.ownsRow n₀ 3 1 v (F b).length (nats (F b))) (hγ : ∀ B, v.ownBlock = some B → γ B = some b) :
    ∃ v' X3 X4, (Builtin.append_ #[32, 32] 32 #[v, .slice (some ⟨W.heap.size, 0, none⟩) 1 1]).run Tryz.prog (W.alloc (.cells #[.int .i64 rule] 3)) = .ok v' X3 ∧
      (Instr.mapUpdate 57 (.map (some M)) (bkV b) v').run Tryz.prog X3 = .ok () X4 ∧ Added n₀ γ W M cnt (addF F rule b) X4 ∧ Kept (fun k => k ≠ M ∧ γ k = none) W X3 := by
  obtain ⟨i0, hi, hz0, hz1, hz2⟩ := info_of infoI
  have hfew := h.few b
  have ha := (World.grownBy_alloc W (.cells #[.int .i64 (rule : Int)] 3) none)
  have hrow2 := owns_same hrow (W' := W.alloc (.cells #[.int .i64 (rule : Int)] 3)) (fun g hg => ha.block g (owns_lt hrow hg).2 (by simp))
  have hsz2 : (W.alloc (.cells #[.int .i64 (rule : Int)] 3)).heap.size = W.heap.size + 1 := World.size_alloc _ _
  obtain ⟨v', X3, hrun, hr3, hg3, hnil, hat⟩ := run_append_own_at (P := Tryz.prog) (W.alloc (.cells #[.int .i64 (rule : Int)] 3)) n₀ 32 32 3 i0 (.int .i64 0) 1 8 Tryz.underlying32 hi hz0 hz1 hz2 rfl (by decide) v (F b).length (nats (F b)) hrow2
    ⟨W.heap.size, 0, none⟩ 1 1 [.int .i64 (rule : Int)] rfl (cell_one_new _ _ _) (by simp [Value.oneCell']) (by unfold maxLen; omega) (by omega) (by omega)
  rw [nats_app, show (F b).length + 1 = (F b ++ [rule]).length by simp] at hr3
  have hs3 : W.heap.size ≤ X3.heap.size := by have := hg3.size; omega
  have old : ∀ k, k < W.heap.size → some k ≠ v.ownBlock → X3.heap[k]? = W.heap[k]? := fun k hk hne => (hg3.block k (by omega) hne).trans (ha.block k hk (by simp))
  have hMne : some M ≠ v.ownBlock := fun e => by have := hγ M e.symm; rw [h.no] at this; cases this
  have hob : ∃ B, v'.ownBlock = some B ∧ (γ B = some b ∨ W.heap.size ≤ B) := by
    rcases hat with e | e
    · have hvn : v' ≠ .slice none 0 0 := fun e' => by have := (hnil.1 e').2; omega
      obtain ⟨_, h4⟩ := hr3
      rcases h4 with ⟨h4, _⟩ | ⟨g, cap, cur, h4, _⟩
      · exact absurd h4 hvn
      · subst h4
        exact ⟨g, rfl, .inl (hγ g e.symm)⟩
    · exact ⟨_, e, .inr (by omega)⟩
  obtain ⟨B, hB, hBγ⟩ := hob
  have hBM : B ≠ M := fun e => by
    subst e
    rcases hBγ with e | e
    · rw [h.no] at e; cases e
    · have := h.lt; omega
  obtain ⟨X4, hrun4, hg4, hM4⟩ := h.put b hb (by unfold maxLen; omega) hs3 (old M h.lt hMne) (fun B' b' hB' hb' => old B' (h.gl _ _ hB').2 (fun e => by have := hγ B' e.symm; rw [hB'] at this; cases this; exact hb' rfl))
    (v := v') (B := B) (l := F b ++ [rule]) (by simp) (by simp; omega) hB hBγ hBM hr3
  have k3 : Kept (fun k => k ≠ M ∧ γ k = none) W X3 := ⟨hg3.os, hg3.tape, hg3.output, hs3, fun i hi hk => old i hi (fun e => by have := hγ i e.symm; rw [hk.2] at this; cases this)⟩
  refine ⟨v', X3, X4, hrun, hrun4, ⟨_, by rw [addF_more hne]; exact hM4, k3.grown hg4 (fun k e => .inr (fun hk => hk.1 (by cases e; rfl))), fun k hk hk' => ?_⟩, k3⟩
  have hkB : k ≠ B := fun e => by
    subst e
    rcases hBγ with e | e
    · rw [hk'] at e; cases e
    · omega
  exact (if_neg hkB).trans hk'

set_option maxRecDepth 100000 in
set_option maxHeartbeats 2000000 in
theorem listsAdd_any (n₀ : Nat) (γ : Gh) (W : World) (M cnt : Nat) (F : Fm) (h : Mp n₀ γ W M cnt F) (b : Bkt) (hb : OkB b) (rule : Nat) (hcnt : cnt ≤ 1099511627776) (hn : n₀ ≤ W.heap.size) :
    Calls Tryz.prog 29 #[.map (some M), bkV b, .int .i64 rule] W fun e W' => e = .returned (.tuple #[]) ∧ Added n₀ γ W M cnt (addF F rule b) W' := by
  obtain ⟨w1, hw1⟩ : ∃ w1, W.alloc (.cells #[.int .u8 b.1, .string b.2] 65) = w1 := ⟨_, rfl⟩
  have b1 : Below W.heap.size W w1 := by rw [← hw1]; exact (Below.refl _ _).alloc (Nat.le_refl _) _
  have k1 : Blk w1 W.heap.size 65 [.int .u8 b.1, .string b.2] := by rw [← hw1]; exact Blk.new W 65 _
  have h1 := h.next b1
  obtain ⟨v, hlook, hrow, hγ, hnil⟩ := h1.look b hb
  have hl0 : (Instr.lookup 57 (.map (some M)) (.agg #[.int .u8 b.1, .string b.2]) false).run Tryz.prog w1 = .ok v w1 := hlook 0
  obtain ⟨⟨c0, c1⟩, _⟩ := blk2 k1
  have same : Hid ((F b).getLast? = some rule → Added n₀ γ W M cnt (addF F rule b) w1) := fun e => by
    rw [addF_same e]
    exact ⟨γ, h1.more, .of_below b1, fun _ _ e => e⟩
  have diff : Hid ((F b).getLast? ≠ some rule → ∃ v' X3 X4, (Builtin.append_ #[32, 32] 32 #[v, .slice (some ⟨w1.drew.heap.size, 0, none⟩) 1 1]).run Tryz.prog (w1.drew.alloc (.cells #[.int .i64 rule] 3)) = .ok v' X3 ∧
      (Instr.mapUpdate 57 (.map (some M)) (.agg #[.int .u8 b.1, .string b.2]) v').run Tryz.prog X3 = .ok () X4 ∧ Added n₀ γ W M cnt (addF F rule b) X4 ∧ (X3.cell? ⟨W.heap.size, 0, none⟩ = some (.int .u8 b.1) ∧ X3.cell? ⟨W.heap.size, 1, none⟩ = some (.string b.2))) := fun e => by
    have bd : Below w1.heap.size w1 w1.drew := below_drew (Below.refl _ _)
    obtain ⟨v', X3, X4, g1, g2, ⟨γ', g3, g4, g5⟩, g6⟩ := add_more (h1.next bd) b hb rule hcnt (by have := b1.size; have := bd.size; omega) e (v := v) hrow hγ
    refine ⟨v', X3, X4, g1, g2, ⟨γ', g3, (Kept.of_below (below_next b1 bd)).trans g4, fun k hk hk' => g5 k (by have := (below_next b1 bd).size; omega) hk'⟩, ?_⟩
    have hkey : W.heap.size ≠ M ∧ γ W.heap.size = none := by
      refine ⟨fun e => by have := h.lt; omega, ?_⟩
      cases eg : γ W.heap.size with
      | none => rfl
      | some x => have := (h.gl _ _ eg).2; omega
    exact (blk2 (g6.blk (k1.below bd k1.lt) hkey)).1
  obtain ⟨N, hN⟩ : ∃ N, (F b).length = N := ⟨_, rfl⟩
  have hfew := h.few b
  rw [hN] at hrow hfew
  obtain ⟨q, cap, rfl⟩ := owns_form hrow
  unfold bkV
  have HS1 : Hid (∀ Y, Below w1.heap.size w1 Y → Y.cell? ⟨W.heap.size, 0, none⟩ = some (.int .u8 b.1) ∧ Y.cell? ⟨W.heap.size, 1, none⟩ = some (.string b.2)) := fun Y hY => (blk2 (k1.below hY k1.lt)).1
  have q0 : Below w1.heap.size w1 w1.drew := below_drew (Below.refl _ _)
  have q1 : Below w1.heap.size w1 (w1.drew.alloc (.cells #[.int .i64 rule] 3)) := q0.alloc (Nat.le_refl _) _
  cases hF : F b with
  | nil =>
    have hv0 := hnil hF
    cases hv0
    obtain ⟨v', X3, X4, g1, g2, g3, g4⟩ := diff.out (by rw [hF]; simp)
    have FIN : Hid (Added n₀ γ W M cnt (addF F rule b) X4) := g3
    clear h h1 hlook hrow hγ hnil k1 same diff b1 g3 hF hN hfew
    go_enter Tryz.func29, Tryz.ntmps29
    go_upto_region 4 with fail
    refine Rg.wpD_begin [0, 1, 2, 3, 4, 5] (fun Y => Y.cell? ⟨W.heap.size, 0, none⟩ = some (.int .u8 b.1) ∧ Y.cell? ⟨W.heap.size, 1, none⟩ = some (.string b.2)) (by kernel_rfl) ?_
    have HeldS := HS1.out _ q0
    refine Rg.wpD_load 0 (v := ?_) (by simp only [List.getElem?_toArray, List.getElem?_cons_zero]; rfl) (by kernel_rfl) (by kernel_rfl) (by intro _ _ _ h; exact h) HeldS (by rfl) (fun wz hz => ?_) ?_
    rotate_left
    · first | (go_simp; done) | (go_simp; with_reducible rfl)
    simp only [Act.put, List.setIfInBounds_toArray, List.set_cons_succ, List.set_cons_zero]
    refine Rg.wpD_load 1 (v := ?_) (by simp only [List.getElem?_toArray, List.getElem?_cons_succ, List.getElem?_cons_zero]; rfl) (by kernel_rfl) (by kernel_rfl) (by intro _ _ _ h; exact h) HeldS (by rfl) (fun wz hz => ?_) ?_
    rotate_left
    · first | (go_simp; done) | (go_simp; with_reducible rfl)
    simp only [Act.put, List.setIfInBounds_toArray, List.set_cons_succ, List.set_cons_zero]
    refine Rg.wpD_load 2 (v := ?_) (by simp only [List.getElem?_toArray, List.getElem?_cons_succ, List.getElem?_cons_zero]; rfl) (by kernel_rfl) (by kernel_rfl) (by intro _ _ _ h; exact h) HeldS (by rfl) (fun wz hz => ?_) ?_
    rotate_left
    · first | (go_simp; done) | (go_simp; with_reducible rfl)
    simp only [Act.put, List.setIfInBounds_toArray, List.set_cons_succ, List.set_cons_zero]
    refine Rg.wpD_load 3 (v := ?_) (by simp only [List.getElem?_toArray, List.getElem?_cons_succ, List.getElem?_cons_zero]; rfl) (by kernel_rfl) (by kernel_rfl) (by intro _ _ _ h; exact h) HeldS (by rfl) (fun wz hz => ?_) ?_
    rotate_left
    · first | (go_simp; done) | (go_simp; with_reducible rfl)
    simp only [Act.put, List.setIfInBounds_toArray, List.set_cons_succ, List.set_cons_zero]
    refine Rg.wpD_do 4 (by kernel_rfl) (by simp only [List.getElem?_toArray, List.getElem?_cons_succ, List.getElem?_cons_zero]; rfl) (fun K hK => ?_)
    go_simp
    refine hK _ _ (fun _ => HS1.out _ q1) ?_
    clear hK K
    refine Rg.wpD_do 5 (by kernel_rfl) (by simp only [List.getElem?_toArray, List.getElem?_cons_succ, List.getElem?_cons_zero]; rfl) (fun K hK => ?_)
    refine step_append_run rfl _ _ 32 rfl rfl rfl g1 (hK _ _ (fun _ => g4) ?_)
    clear hK K
    refine Rg.wpD_do 6 (by kernel_rfl) (by simp only [List.getElem?_toArray, List.getElem?_cons_succ, List.getElem?_cons_zero]; rfl) (fun K hK => ?_)
    go_simp
    refine hK _ _ (fun h => absurd h (by decide)) ?_
    clear hK K
    refine Rg.wpD_done (by kernel_rfl) ?_
    go_wp2
    go_end0
    exact ⟨rfl, FIN.out⟩
  | cons x0 l0 =>
    obtain ⟨k, hk⟩ : ∃ k, N = k + 1 := ⟨l0.length, by rw [← hN, hF]; rfl⟩
    obtain ⟨x, hx⟩ : ∃ x, (F b).getLast? = some x := ⟨_, by rw [hF, List.getLast?_cons]⟩
    have hxk : (F b)[k]? = some x := by
      rw [List.getLast?_eq_getElem?, hN, hk] at hx
      exact hx
    have hcell : ∃ B, q = some ⟨B, 0, none⟩ ∧ w1.cell? ⟨B, k, none⟩ = some (.int .i64 x) := by
      obtain ⟨_, h4⟩ := hrow
      rcases h4 with ⟨_, h4⟩ | ⟨g, c', cur, h4, h5⟩
      · omega
      · cases h4
        refine ⟨g, rfl, ?_⟩
        have hr' : w1.ownsRow n₀ 3 1 (.slice (some ⟨g, 0, none⟩) N cap) N (nats (F b)) := ⟨by assumption, .inr ⟨g, cap, cur, rfl, h5⟩⟩
        have := hr'.cells (g := g) rfl k (.int .i64 x) (by simp [nats, hxk])
        rw [addr0] at this
        exact this
    obtain ⟨B, rfl, hcell⟩ := hcell
    have i1 : (0 : Int) < (N : Int) := by omega
    have i2 : IntKind.i64.wrap ((N : Int) - 1) = (k : Int) := by rw [IntKind.wrap_i64]; omega
    have i3 : (k : Int) < (N : Int) := by omega
    have hcN : N ≤ cap := by
      obtain ⟨_, h4⟩ := hrow
      rcases h4 with ⟨h4, _⟩ | ⟨g, c', cur, h4, _, _, h5, _⟩
      · cases h4
      · cases h4; exact h5
    have i4 : cap ≤ 9223372036854775807 := by
      obtain ⟨_, h4⟩ := hrow
      rcases h4 with ⟨h4, _⟩ | ⟨g, c', cur, h4, _, _, _, h5, _⟩
      · cases h4
      · cases h4; unfold maxLen at h5; omega
    by_cases hr : x = rule
    · subst hr
      have fin := same.out hx
      have FIN : Hid (Added n₀ γ W M cnt (addF F x b) w1) := fin
      clear h h1 hlook hrow hγ hnil k1 same diff b1 fin hF hN hfew hx hxk hk
      go_enter Tryz.func29, Tryz.ntmps29
      go_wp2
      refine bodyPost_ret (results_none rfl _ _ _) rfl ?_
      exact ⟨rfl, FIN.out⟩
    · obtain ⟨v', X3, X4, g1, g2, g3, g4⟩ := diff.out (by rw [hx]; intro e; exact hr (Option.some.inj e))
      have FIN : Hid (Added n₀ γ W M cnt (addF F rule b) X4) := g3
      have i5 : ((x : Int) == (rule : Int)) = false := by rw [beq_eq_false_iff_ne]; omega
      have i6 : ¬ ((x : Int) = (rule : Int)) := by omega
      clear h h1 hlook hrow hγ hnil k1 same diff b1 g3 hF hN hfew hx hxk hk hr
      go_enter Tryz.func29, Tryz.ntmps29
      go_upto_region 4 with fail
      refine Rg.wpD_begin [0, 1, 2, 3, 4, 5] (fun Y => Y.cell? ⟨W.heap.size, 0, none⟩ = some (.int .u8 b.1) ∧ Y.cell? ⟨W.heap.size, 1, none⟩ = some (.string b.2)) (by kernel_rfl) ?_
      have HeldS := HS1.out _ q0
      refine Rg.wpD_load 0 (v := ?_) (by simp only [List.getElem?_toArray, List.getElem?_cons_zero]; rfl) (by kernel_rfl) (by kernel_rfl) (by intro _ _ _ h; exact h) HeldS (by rfl) (fun wz hz => ?_) ?_
      rotate_left
      · first | (go_simp; done) | (go_simp; with_reducible rfl)
      simp only [Act.put, List.setIfInBounds_toArray, List.set_cons_succ, List.set_cons_zero]
      refine Rg.wpD_load 1 (v := ?_) (by simp only [List.getElem?_toArray, List.getElem?_cons_succ, List.getElem?_cons_zero]; rfl) (by kernel_rfl) (by kernel_rfl) (by intro _ _ _ h; exact h) HeldS (by rfl) (fun wz hz => ?_) ?_
      rotate_left
      · first | (go_simp; done) | (go_simp; with_reducible rfl)
      simp only [Act.put, List.setIfInBounds_toArray, List.set_cons_succ, List.set_cons_zero]
      refine Rg.wpD_load 2 (v := ?_) (by simp only [List.getElem?_toArray, List.getElem?_cons_succ, List.getElem?_cons_zero]; rfl) (by kernel_rfl) (by kernel_rfl) (by intro _ _ _ h; exact h) HeldS (by rfl) (fun wz hz => ?_) ?_
      rotate_left
      · first | (go_simp; done) | (go_simp; with_reducible rfl)
      simp only [Act.put, List.setIfInBounds_toArray, List.set_cons_succ, List.set_cons_zero]
      refine Rg.wpD_load 3 (v := ?_) (by simp only [List.getElem?_toArray, List.getElem?_cons_succ, List.getElem?_cons_zero]; rfl) (by kernel_rfl) (by kernel_rfl) (by intro _ _ _ h; exact h) HeldS (by rfl) (fun wz hz => ?_) ?_
      rotate_left
      · first | (go_simp; done) | (go_simp; with_reducible rfl)
      simp only [Act.put, List.setIfInBounds_toArray, List.set_cons_succ, List.set_cons_zero]
      refine Rg.wpD_do 4 (by kernel_rfl) (by simp only [List.getElem?_toArray, List.getElem?_cons_succ, List.getElem?_cons_zero]; rfl) (fun K hK => ?_)
      go_simp
      refine hK _ _ (fun _ => HS1.out _ q1) ?_
      clear hK K
      refine Rg.wpD_do 5 (by kernel_rfl) (by simp only [List.getElem?_toArray, List.getElem?_cons_succ, List.getElem?_cons_zero]; rfl) (fun K hK => ?_)
      refine step_append_run rfl _ _ 32 rfl rfl rfl g1 (hK _ _ (fun _ => g4) ?_)
      clear hK K
      refine Rg.wpD_do 6 (by kernel_rfl) (by simp only [List.getElem?_toArray, List.getElem?_cons_succ, List.getElem?_cons_zero]; rfl) (fun K hK => ?_)
      go_simp
      refine hK _ _ (fun h => absurd h (by decide)) ?_
      clear hK K
      refine Rg.wpD_done (by kernel_rfl) ?_
      go_wp2
      go_end0
      exact ⟨rfl, FIN.out⟩

end Go.Proofs.YtchfnnoabejlpabGreat.Bk

/- package bucket: bucketOf, Map.add, New, at every list of rules. -/
namespace Go.Proofs.YtchfnnoabejlpabGreat.Bk
open Go.Proofs.YtchfnnoabejlpabGreat.Tre
open Go Go.RowKit Sl Wg

set_option maxRecDepth 100000 in
theorem clone_any (s : ByteArray) (w : World) (hs : s.size ≤ 281474976710656) :
    Calls Tryz.prog 28 #[.string s] w fun e w' => e = .returned (.string s) ∧ Below w.heap.size w w' := by
  have hc := Tryz.stringslite_Clone s w hs
  go_enter Tryz.func28, Tryz.ntmps28
  go_wp2_with fail
  refine hc.mono ?_
  clear hc
  rintro e w1 ⟨rfl, h⟩
  go_wp2
  go_ret
  exact ⟨rfl, h⟩
theorem infoBk : (Tryz.prog.info? 65).map (·.size) = some 2 := by kernel_rfl
theorem load_bk {w : World} {g : Nat} {a b : Value} (h : Blk w g 65 [a, b]) : (loadVar 65 ⟨g, 0, none⟩).run Tryz.prog w = .ok (.agg #[a, b]) w :=
  run_loadVar_row w g _ 65 #[a, b] (0, 0) _ h Tryz.underlying65 rfl infoBk
theorem bytes_ne {x : ByteArray} (ht : x ≠ ⟨#[]⟩) : (x.toList == []) = false := by
  rw [ByteArray.toList_eq, beq_eq_false_iff_ne]
  intro e
  exact ht (by
    cases h : x with
    | mk d =>
      rw [h] at e
      simp only [ByteArray.mk.injEq]
      exact Array.toList_inj.1 e)
set_option maxRecDepth 100000 in
set_option maxHeartbeats 1000000 in
theorem bucketOf_any (Q : Value → List Sel → Prop) (c : Cp) (w : World) (vi vk va vp : Value) (hc : CpC Q w.heap.size w [.string c.tag, vi, vk, va, vp] c) :
    Calls Tryz.prog 27 #[.agg #[.string c.tag, vi, vk, va, vp]] w fun e w' => e = .returned (bkV (bktOf c)) ∧ Below w.heap.size w w' := by
  obtain ⟨i', k', a', p', e, r1, r2, r3, r4⟩ := hc
  simp only [List.cons.injEq, and_true, true_and] at e
  obtain ⟨rfl, rfl, rfl, rfl⟩ := e
  obtain ⟨W, hW⟩ : ∃ W, (w.alloc (.cells #[.string c.tag, vi, vk, va, vp] 82)).alloc (.cells #[.int .u8 0, .string ⟨#[]⟩] 65) = W := ⟨_, rfl⟩
  have b0 : Below w.heap.size w W := by rw [← hW]; exact ((Below.refl _ w).alloc (Nat.le_refl _) _).alloc (by simp) _
  have k0 : Blk W w.heap.size 82 [.string c.tag, vi, vk, va, vp] := by
    rw [← hW]
    exact (Blk.new w 82 _).kept (World.grownBy_alloc _ _ none) (by simp)
  have k2 : Blk W (w.heap.size + 1) 65 [.int .u8 0, .string ⟨#[]⟩] := by
    rw [← hW]
    have := Blk.new (w.alloc (.cells #[.string c.tag, vi, vk, va, vp] 82)) 65 [.int .u8 0, .string ⟨#[]⟩]
    rwa [World.size_alloc] at this
  have fin : ∀ x y, (loadVar 65 ⟨w.heap.size + 1, 0, none⟩).run Tryz.prog (set2 W (w.heap.size + 1) x y) = .ok (.agg #[x, y]) (set2 W (w.heap.size + 1) x y) ∧ Below w.heap.size w (set2 W (w.heap.size + 1) x y) := fun x y =>
    ⟨load_bk (blk_set2 k2 x y), below_grown b0 (grown_set2 W (w.heap.size + 1) _ _) (by have := b0.size; omega) (by omega)⟩
  have FIN : Hid (∀ x y, _) := fin
  have e1 := r1.below b0 (T' := StrC) (fun _ _ h => h)
  have e2 := r2.below b0 (T' := StrC) (fun _ _ h => h)
  obtain ⟨q1, cp1, rfl⟩ := r1.len
  obtain ⟨q2, cp2, rfl⟩ := r2.len
  obtain ⟨q3, cp3, rfl⟩ := r3.len
  obtain ⟨q4, cp4, rfl⟩ := r4.len
  have s1 := r1.short
  have s2 := r2.short
  unfold maxLen at s1 s2
  obtain ⟨⟨c0, c1, c2, c3, c4⟩, _⟩ := blk5 k0
  obtain ⟨⟨z0, z1⟩, f0, f1⟩ := blk2 k2
  clear r1 r2 r3 r4 k0 k2 b0 fin
  go_enter Tryz.func27, Tryz.ntmps27
  go_upto_region 1 with fail
  clear hW
  cases hi : c.ids with
  | cons x l =>
    obtain ⟨g, off, cs, hq, _, hcap, hm, _, hT, hcell⟩ := RowT.get e1 (k := 0) (x := x) (by rw [hi]; rfl)
    subst hq
    cases hT
    have y0 := hcell 0 _ rfl
    simp only [Nat.zero_mul, Nat.add_zero] at y0
    have hN : (0 : Int) < (c.ids.length : Int) := by rw [hi]; simp
    have hbk : Hid (bktOf c = (3, x)) := by show _ = _; simp [bktOf, hi]
    clear hcell e1 e2
    obtain ⟨F1, F2⟩ := (show ∀ x y, _ from FIN) (.int .u8 3) (.string x)
    generalize c.ids.length = N at *
    go_wp2
    refine bodyPost_ret (results_struct rfl _ _ (w.heap.size + 1) _ rfl F1) rfl ?_
    exact ⟨by rw [show bktOf c = _ from hbk]; rfl, F2⟩
  | nil =>
    rw [hi] at c1
    cases hk : c.classes with
    | cons x l =>
      obtain ⟨g, off, cs, hq, _, hcap, hm, _, hT, hcell⟩ := RowT.get e2 (k := 0) (x := x) (by rw [hk]; rfl)
      subst hq
      cases hT
      have y0 := hcell 0 _ rfl
      simp only [Nat.zero_mul, Nat.add_zero] at y0
      have hN : (0 : Int) < (c.classes.length : Int) := by rw [hk]; simp
      have hbk : Hid (bktOf c = (2, x)) := by show _ = _; simp [bktOf, hi, hk]
      clear hcell e1 e2
      obtain ⟨F1, F2⟩ := (show ∀ x y, _ from FIN) (.int .u8 2) (.string x)
      generalize c.classes.length = N at *
      go_wp2
      refine bodyPost_ret (results_struct rfl _ _ (w.heap.size + 1) _ rfl F1) rfl ?_
      exact ⟨by rw [show bktOf c = _ from hbk]; rfl, F2⟩
    | nil =>
      rw [hk] at c2
      clear e1 e2
      by_cases ht : c.tag = ⟨#[]⟩
      · have hbk : Hid (bktOf c = (0, ⟨#[]⟩)) := by show _ = _; simp [bktOf, hi, hk, ht]
        obtain ⟨F1, F2⟩ := (show ∀ x y, _ from FIN) (.int .u8 0) (.string ⟨#[]⟩)
        rw [ht] at c0
        clear hi hk ht
        go_wp2
        refine bodyPost_ret (results_struct rfl _ _ (w.heap.size + 1) _ rfl F1) rfl ?_
        exact ⟨by rw [show bktOf c = _ from hbk]; rfl, F2⟩
      · have hbk : Hid (bktOf c = (1, c.tag)) := by show _ = _; simp [bktOf, hi, hk, ht]
        have hne := bytes_ne ht
        obtain ⟨F1, F2⟩ := (show ∀ x y, _ from FIN) (.int .u8 1) (.string c.tag)
        clear hi hk ht
        go_wp2
        refine bodyPost_ret (results_struct rfl _ _ (w.heap.size + 1) _ rfl F1) rfl ?_
        exact ⟨by rw [show bktOf c = _ from hbk]; rfl, F2⟩

/-! ### maps -/
/-- A map in memory: its rules by buckets, how many selectors stand in it, and a bound. -/
def MapIn (n₀ : Nat) (W : World) (tb : Nat) (F : Fm) (st c : Nat) : Prop :=
  ∃ γ M cnt, cnt ≤ c ∧ Mp n₀ γ W M cnt F ∧ Blk W tb 59 [.map (some M), .int .i64 st] ∧ n₀ ≤ tb ∧ γ tb = none ∧ tb ≠ M ∧ n₀ ≤ W.heap.size
theorem MapIn.next {n₀ : Nat} {W X : World} {tb : Nat} {F : Fm} {st c : Nat} (h : MapIn n₀ W tb F st c) (hb : Below W.heap.size W X) : MapIn n₀ X tb F st c := by
  obtain ⟨γ, M, cnt, h1, h2, h3, h4, h5, h6, h7⟩ := h
  exact ⟨γ, M, cnt, h1, h2.next hb, h3.below hb h3.lt, h4, h5, h6, Nat.le_trans h7 hb.size⟩
def NmOk (s : Sel) : Prop := ∀ b, selB s = some b → b.2.size ≤ 281474976710656
def one1 (s : Sel) : Nat := if s.isEmpty then 0 else 1
theorem NmOk.ok {s : Sel} (h : NmOk s) {b : Bkt} (hb : selB s = some b) : OkB b := ⟨selB_lt hb, by have := h b hb; unfold maxLen; omega⟩

set_option maxRecDepth 100000 in
set_option maxHeartbeats 2000000 in
theorem mapAdd_any (d n₀ : Nat) (W : World) (tb : Nat) (F : Fm) (st c rule : Nat) (h : MapIn n₀ W tb F st c) (pv : Value) (s : Sel) (hP : PartsR d n₀ W pv s) (hN : NmOk s) (hc : c ≤ 1099511627776) (hst : st ≤ 1099511627776) :
    Calls Tryz.prog 16 #[.pointer (some ⟨tb, 0, none⟩), .int .i64 rule, .agg #[pv]] W fun e W' => e = .returned (.tuple #[]) ∧ MapIn n₀ W' tb (addS F rule s) (st + one1 s) (c + 1) ∧ Below n₀ W W' := by
  obtain ⟨q, cap, rfl⟩ := RowT.len hP
  have hn : n₀ ≤ W.heap.size := by obtain ⟨_, _, _, _, _, _, _, _, _, h⟩ := h; exact h
  obtain ⟨w1, hw1⟩ : ∃ w1, W.alloc (.cells #[.slice q s.length cap] 50) = w1 := ⟨_, rfl⟩
  have b1 : Below W.heap.size W w1 := by rw [← hw1]; exact (Below.refl _ _).alloc (Nat.le_refl _) _
  have k1 : Blk w1 W.heap.size 50 [.slice q s.length cap] := by rw [← hw1]; exact Blk.new W 50 _
  have m1 := h.next b1
  have P1 := PartsR.below hP (b1.mono hn)
  have c0 := (blk1 k1).1
  by_cases hs0 : s.length = 0
  · obtain rfl : s = [] := List.eq_nil_of_length_eq_zero hs0
    have FIN : Hid (MapIn n₀ w1 tb (addS F rule []) (st + one1 []) (c + 1)) := by
      obtain ⟨γ, M, cnt, g1, g2⟩ := m1
      exact ⟨γ, M, cnt, by omega, g2⟩
    subst hw1
    clear h m1 P1 hP k1
    go_enter Tryz.func16, Tryz.ntmps16
    go_wp2
    refine bodyPost_ret (results_none rfl _ _ _) rfl ?_
    exact ⟨rfl, FIN.out, b1.mono hn⟩
  · obtain ⟨k, hk⟩ : ∃ k, s.length = k + 1 := ⟨s.length - 1, by omega⟩
    obtain ⟨p, hp⟩ : ∃ p, s[k]? = some p := ⟨_, List.getElem?_eq_getElem (by omega)⟩
    have hsel : selB s = some (bktOf p.2) := by
      unfold selB
      rw [List.getLast?_eq_getElem?, hk, Nat.add_sub_cancel, hp]
      rfl
    have hOk := hN.ok hsel
    have hnm : (bktOf p.2).2.size ≤ 281474976710656 := hN _ hsel
    have hadd : addS F rule s = addF F rule (bktOf p.2) := by unfold addS; rw [hsel]
    have hone : one1 s = 1 := by
      unfold one1
      cases s with
      | nil => simp at hs0
      | cons a l => rfl
    rw [hadd, hone]
    generalize hbb : bktOf p.2 = bb at *
    obtain ⟨b, off, vi, vk, va, vp, hq, hbn, hc1, hc2, ⟨x0, x1, x2, x3, x4, x5⟩, r1, r2, r3, r4⟩ := PartsR.get P1 hp
    subst hq
    have hbo := bucketOf_any (SelsR d w1.heap.size w1) p.2 w1 vi vk va vp ⟨vi, vk, va, vp, rfl, r1.mono (by have := b1.size; omega) (fun _ _ h => h), r2.mono (by have := b1.size; omega) (fun _ _ h => h), r3.mono (by have := b1.size; omega) (fun _ _ h => h), r4.mono (by have := b1.size; omega) (fun _ _ ⟨x, e, hx⟩ => ⟨x, e, hx.mono d (by have := b1.size; omega)⟩)⟩
    rw [hbb] at hbo
    unfold bkV at hbo
    obtain ⟨q1, cp1, rfl⟩ := r1.len
    obtain ⟨q2, cp2, rfl⟩ := r2.len
    obtain ⟨q3, cp3, rfl⟩ := r3.len
    obtain ⟨q4, cp4, rfl⟩ := r4.len
    have i0 : ¬ ((s.length : Int) = 0) := by omega
    have i1 : IntKind.i64.wrap ((s.length : Int) - 1) = (k : Int) := by rw [IntKind.wrap_i64]; unfold maxLen at hc2; omega
    have i2 : (k : Int) < (s.length : Int) := by omega
    unfold maxLen at hc2
    have M1 : Hid (MapIn n₀ w1 tb F st c) := m1
    clear h m1 P1 hP k1 r1 r2 r3 r4 hsel hadd hone hk hp hN
    generalize s.length = N at *
    go_enter Tryz.func16, Tryz.ntmps16
    go_wp2_with fail
    refine hbo.mono ?_
    clear hbo
    rintro e w2 ⟨rfl, b2⟩
    obtain ⟨w3, hw3⟩ : ∃ w3, w2.alloc (.cells #[.int .u8 bb.1, .string bb.2] 65) = w3 := ⟨_, rfl⟩
    have b3 : Below w2.heap.size w2 w3 := by rw [← hw3]; exact (Below.refl _ _).alloc (Nat.le_refl _) _
    have k3 : Blk w3 w2.heap.size 65 [.int .u8 bb.1, .string bb.2] := by rw [← hw3]; exact Blk.new w2 65 _
    have hcl := clone_any bb.2 w3 hnm
    have d1 := (blk2 k3).1.2
    clear x0 x1 x2 x3 x4 x5 c0
    go_wp2_with fail
    refine hcl.mono ?_
    clear hcl d1
    rintro e w4 ⟨rfl, b4⟩
    have b14 := below_next (below_next b2 b3) b4
    have k4 := k3.below b4 k3.lt
    obtain ⟨⟨d0, d1⟩, f0, f1⟩ := blk2 k4
    have k5 := blk_put k4 1 (.string bb.2)
    have g5 := grown_set w4 w2.heap.size 1 (.string bb.2)
    have M4 := M1.out.next b14
    have hlt4 : w2.heap.size < w4.heap.size := k4.lt
    have M5 : MapIn n₀ (w4.setCell ⟨w2.heap.size, 1, none⟩ (.string bb.2)) tb F st c := by
      obtain ⟨γ, M, cnt, g1, g2, g3, g4, g6, g7, g8⟩ := M1.out.next b2
      have hM := g2.lt
      have ht := g3.lt
      obtain bb34 := below_next b3 b4
      have g2' := g2.next bb34
      exact ⟨γ, M, cnt, g1, g2'.kept g5.size (g5.block M g2'.lt (by simp; omega)) (fun B x e => g5.block B (g2'.gl B x e).2 (by have := (g2.gl B x e).2; simp; omega)), (g3.below bb34 ht).kept g5 (by simp; omega), g4, g6, g7, by have := bb34.size; have := g5.size; omega⟩
    have b05 : Below n₀ W (w4.setCell ⟨w2.heap.size, 1, none⟩ (.string bb.2)) := below_grown ((below_next b1 b14).mono hn) g5 (by have := b1.size; have := b14.size; omega) (by have := b1.size; have := b2.size; omega)
    clear M4 M1 k3 k4 b14 b4 b3 b2 hlt4
    go_upto_region 4 with fail
    clear d0 d1 f0 f1
    generalize w4.setCell ⟨w2.heap.size, 1, none⟩ (.string bb.2) = w5 at *
    have k5' : Blk w5 w2.heap.size 65 [.int .u8 bb.1, .string bb.2] := k5
    obtain ⟨γ, M, cnt, g1, g2, g3, g4, g6, g7, g8⟩ := M5
    have q0 : Below w5.heap.size w5 w5.drew := below_drew (Below.refl _ _)
    have hla := listsAdd_any n₀ γ w5.drew M cnt F (g2.next q0) bb hOk rule (by omega) (by have := q0.size; omega)
    unfold bkV at hla
    have HeldS : w5.drew.cell? ⟨tb, 0, none⟩ = some (.map (some M)) ∧ w5.drew.cell? ⟨w2.heap.size, 0, none⟩ = some (.int .u8 bb.1) ∧ w5.drew.cell? ⟨w2.heap.size, 1, none⟩ = some (.string bb.2) := ⟨(blk2 (g3.below q0 g3.lt)).1.1, (blk2 (k5'.below q0 k5'.lt)).1⟩
    refine Rg.wpD_begin [0, 1, 2, 3, 4, 5] (fun X => X.cell? ⟨tb, 0, none⟩ = some (.map (some M)) ∧ X.cell? ⟨w2.heap.size, 0, none⟩ = some (.int .u8 bb.1) ∧ X.cell? ⟨w2.heap.size, 1, none⟩ = some (.string bb.2)) (by kernel_rfl) ?_
    refine Rg.wpD_load 0 (v := ?_) (by simp only [List.getElem?_toArray, List.getElem?_cons_zero]; rfl) (by kernel_rfl) (by kernel_rfl) (by intro _ _ _ h; exact h) HeldS (by rfl) (fun wz hz => ?_) ?_
    rotate_left
    · first | (go_simp; done) | (go_simp; with_reducible rfl)
    simp only [Act.put, List.setIfInBounds_toArray, List.set_cons_succ, List.set_cons_zero]
    refine Rg.wpD_load 1 (v := ?_) (by simp only [List.getElem?_toArray, List.getElem?_cons_succ, List.getElem?_cons_zero]; rfl) (by kernel_rfl) (by kernel_rfl) (by intro _ _ _ h; exact h) HeldS (by rfl) (fun wz hz => ?_) ?_
    rotate_left
    · first | (go_simp; done) | (go_simp; with_reducible rfl)
    simp only [Act.put, List.setIfInBounds_toArray, List.set_cons_succ, List.set_cons_zero]
    refine Rg.wpD_load 2 (v := ?_) (by simp only [List.getElem?_toArray, List.getElem?_cons_succ, List.getElem?_cons_zero]; rfl) (by kernel_rfl) (by kernel_rfl) (by intro _ _ _ h; exact h) HeldS (by rfl) (fun wz hz => ?_) ?_
    rotate_left
    · first | (go_simp; done) | (go_simp; with_reducible rfl)
    simp only [Act.put, List.setIfInBounds_toArray, List.set_cons_succ, List.set_cons_zero]
    refine Rg.wpD_load 3 (v := ?_) (by simp only [List.getElem?_toArray, List.getElem?_cons_succ, List.getElem?_cons_zero]; rfl) (by kernel_rfl) (by kernel_rfl) (by intro _ _ _ h; exact h) HeldS (by rfl) (fun wz hz => ?_) ?_
    rotate_left
    · first | (go_simp; done) | (go_simp; with_reducible rfl)
    simp only [Act.put, List.setIfInBounds_toArray, List.set_cons_succ, List.set_cons_zero]
    refine Rg.wpD_load 4 (v := ?_) (by simp only [List.getElem?_toArray, List.getElem?_cons_succ, List.getElem?_cons_zero]; rfl) (by kernel_rfl) (by kernel_rfl) (by intro _ _ _ h; exact h) HeldS (by rfl) (fun wz hz => ?_) ?_
    rotate_left
    · first | (go_simp; done) | (go_simp; with_reducible rfl)
    simp only [Act.put, List.setIfInBounds_toArray, List.set_cons_succ, List.set_cons_zero]
    refine Rg.wpD_load 5 (v := ?_) (by simp only [List.getElem?_toArray, List.getElem?_cons_succ, List.getElem?_cons_zero]; rfl) (by kernel_rfl) (by kernel_rfl) (by intro _ _ _ h; exact h) HeldS (by rfl) (fun wz hz => ?_) ?_
    rotate_left
    · first | (go_simp; done) | (go_simp; with_reducible rfl)
    simp only [Act.put, List.setIfInBounds_toArray, List.set_cons_succ, List.set_cons_zero]
    refine Rg.wpD_do 6 (by kernel_rfl) (by simp only [List.getElem?_toArray, List.getElem?_cons_succ, List.getElem?_cons_zero]; rfl) (fun K hK => ?_)
    go_simp
    go_at_call 29
    refine Calls.mono hla ?_
    clear hla
    rintro e w6 ⟨rfl, γ', h6, hk6, hg6⟩
    refine hK _ _ (fun h => absurd h (by decide)) ?_
    clear hK K HeldS
    refine Rg.wpD_done (by kernel_rfl) ?_
    have g36 : Blk w6 tb 59 [.map (some M), .int .i64 st] := hk6.blk (g3.below q0 g3.lt) ⟨g7, g6⟩
    have b06 : Below n₀ w5.drew w6 := hk6.below (by have := q0.size; omega) (fun k hk => ⟨fun e => by have := g2.lo; omega, by
      cases eg : γ k with
      | none => rfl
      | some x => have := (g2.gl _ _ eg).1; omega⟩)
    have hγ' : γ' tb = none := hg6 tb (by have := g3.lt; have := q0.size; omega) g6
    obtain ⟨ST, hST⟩ : ∃ ST, (st + 1 : Nat) = ST := ⟨_, rfl⟩
    obtain ⟨⟨t0, t1⟩, f0, f1⟩ := blk2 g36
    have k7 := blk_put g36 1 (.int .i64 ST)
    have g7' := grown_set w6 tb 1 (.int .i64 ST)
    have i3 : IntKind.i64.wrap ((st : Int) + 1) = (ST : Int) := by rw [IntKind.wrap_i64]; omega
    have FIN : Hid (MapIn n₀ (w6.setCell ⟨tb, 1, none⟩ (.int .i64 ST)) tb (addF F rule bb) ST (c + 1) ∧ Below n₀ W (w6.setCell ⟨tb, 1, none⟩ (.int .i64 ST))) := by
      have b07 : Below n₀ W w6 := b05.trans ((q0.mono g8).trans b06)
      have s6 := hk6.size
      have q0s := q0.size
      refine ⟨⟨γ', M, cnt + 1, by omega, h6.kept g7'.size (g7'.block M h6.lt (by simp; omega)) (fun B x e => g7'.block B (h6.gl B x e).2 (by
        intro e'
        cases e'
        rw [hγ'] at e
        cases e)), k7, g4, hγ', g7, by have := g7'.size; omega⟩, below_grown b07 g7' (by omega) g4⟩
    have HST : Hid (st + 1 = ST) := hST
    clear hST
    clear h6 hk6 hg6 g36 k7 g7' g2 g3 k5 k5' q0 b05 b06
    go_wp2
    go_end0
    exact ⟨rfl, by rw [HST.out]; exact FIN.out⟩

end Go.Proofs.YtchfnnoabejlpabGreat.Bk

/- package bucket: New, at every list of rules. -/
namespace Go.Proofs.YtchfnnoabejlpabGreat.Bk
open Go.Proofs.YtchfnnoabejlpabGreat.Tre
open Go Go.RowKit Sl Wg

/-! ### New -/
/-- The slice v holds the rules l: their selectors, so many lists deep. -/
def RulesR (d n : Nat) (W : World) (v : Value) (l : List Rl) : Prop := RowT 2 (fun c r => ∃ x p m k, c = [x, .slice p m k] ∧ SelsR d n W x r) n W v l
theorem RulesR.below {d n : Nat} {X Y : World} {v : Value} {l : List Rl} (h : RulesR d n X v l) (hb : Below n X Y) : RulesR d n Y v l := RowT.below h hb (fun _ _ ⟨x, p, m, k, e, hx⟩ => ⟨x, p, m, k, e, hx.below d hb⟩)
theorem RulesR.mono {d n m : Nat} {X : World} {v : Value} {l : List Rl} (h : RulesR d n X v l) (hn : n ≤ m) : RulesR d m X v l := RowT.mono h hn (fun _ _ ⟨x, p, k, j, e, hx⟩ => ⟨x, p, k, j, e, hx.mono d hn⟩)
theorem RulesR.next {d : Nat} {X Y : World} {v : Value} {l : List Rl} (h : RulesR d X.heap.size X v l) (hb : Below X.heap.size X Y) : RulesR d Y.heap.size Y v l := (h.below hb).mono hb.size
theorem addR_snoc (F : Fm) (i : Nat) (r : Rl) {j : Nat} {s : Sel} (h : r[j]? = some s) : addR F i (r.take (j + 1)) = addS (addR F i (r.take j)) i s := by
  obtain ⟨hk, rfl⟩ := List.getElem?_eq_some_iff.1 h
  unfold addR
  rw [List.take_succ_eq_append_getElem hk, List.foldl_append]
  rfl
theorem newAt_app : ∀ (l : List Rl) (F : Fm) (i : Nat) (r : Rl), newAt F i (l ++ [r]) = addR (newAt F i l) (i + l.length) r
  | [], F, i, r => rfl
  | a :: l, F, i, r => by
    show newAt (addR F i a) (i + 1) (l ++ [r]) = addR (newAt (addR F i a) (i + 1) l) (i + (l.length + 1)) r
    rw [newAt_app l, show i + 1 + l.length = i + (l.length + 1) by omega]
theorem newAt_snoc (l : List Rl) {k : Nat} {r : Rl} (h : l[k]? = some r) : newFm (l.take (k + 1)) = addR (newFm (l.take k)) k r := by
  obtain ⟨hk, rfl⟩ := List.getElem?_eq_some_iff.1 h
  unfold newFm
  rw [List.take_succ_eq_append_getElem hk, newAt_app, Nat.zero_add, List.length_take_of_le (by omega)]
def selsN (r : Rl) : Nat := (r.filter (fun s => !s.isEmpty)).length
theorem selsN_snoc (r : Rl) {j : Nat} {s : Sel} (h : r[j]? = some s) : selsN (r.take (j + 1)) = selsN (r.take j) + one1 s := by
  obtain ⟨hk, rfl⟩ := List.getElem?_eq_some_iff.1 h
  unfold selsN one1
  rw [List.take_succ_eq_append_getElem hk, List.filter_append, List.length_append]
  cases hh : (r[j]).isEmpty <;> simp [hh]
theorem selsN_le (r : Rl) : selsN r ≤ r.length := List.length_filter_le _ _
theorem lenV_snoc (l : List Rl) {k : Nat} {r : Rl} (h : l[k]? = some r) : lenV (l.take (k + 1)) = lenV (l.take k) + selsN r := by
  obtain ⟨hk, rfl⟩ := List.getElem?_eq_some_iff.1 h
  unfold lenV selsN
  rw [List.take_succ_eq_append_getElem hk, List.map_append, List.sum_append]
  simp
theorem lenV_le : ∀ (l : List Rl), (∀ r ∈ l, r.length ≤ 100000) → lenV l ≤ l.length * 100000
  | [], _ => by simp [lenV]
  | r :: l, h => by
    have := lenV_le l (fun x hx => h x (List.mem_cons_of_mem _ hx))
    have h1 := selsN_le r
    have h2 := h r (List.mem_cons_self ..)
    have : lenV (r :: l) = selsN r + lenV l := by simp [lenV, selsN]
    rw [this, List.length_cons]
    omega

set_option maxRecDepth 100000 in
set_option maxHeartbeats 1000000 in
/-- bucket.New. -/
theorem new_any (d : Nat) (v : Value) (l : List Rl) (w : World) (hv : RulesR (d + 1) w.heap.size w v l) (hl : l.length ≤ 100000) (hs : ∀ r ∈ l, r.length ≤ 100000) (hN : ∀ r ∈ l, ∀ s ∈ r, NmOk s) :
    Calls Tryz.prog 8 #[v] w fun e w' => ∃ tb, e = .returned (.pointer (some ⟨tb, 0, none⟩)) ∧ MapIn w.heap.size w' tb (newFm l) (lenV l) 10000000000 ∧ Below w.heap.size w w' := by
  obtain ⟨q, cap, rfl⟩ := RowT.len hv
  obtain ⟨w1, hw1⟩ : ∃ w1, w.alloc (.map #[] 0) = w1 := ⟨_, rfl⟩
  have m1 : Mp w.heap.size (fun _ => none) w1 w.heap.size 0 zeroF := by rw [← hw1]; exact Mp.made w
  have b1 : Below w.heap.size w w1 := by rw [← hw1]; exact (Below.refl _ _).alloc (Nat.le_refl _) _
  have s1 : w1.heap.size = w.heap.size + 1 := by rw [← hw1]; exact World.size_alloc _ _
  obtain ⟨w2, hw2⟩ : ∃ w2, w1.alloc (.cells #[.map (some w.heap.size), .int .i64 0] 59) = w2 := ⟨_, rfl⟩
  have b2 : Below w1.heap.size w1 w2 := by rw [← hw2]; exact (Below.refl _ _).alloc (Nat.le_refl _) _
  have k2 : Blk w2 w1.heap.size 59 [.map (some w.heap.size), .int .i64 0] := by rw [← hw2]; exact Blk.new w1 59 _
  have S0 : MapIn w.heap.size w2 w1.heap.size (newFm (l.take 0)) (lenV (l.take 0)) 0 := ⟨_, _, 0, Nat.le_refl _, m1.next b2, k2, by omega, rfl, by omega, by have := b2.size; omega⟩
  have B0 := below_next b1 b2
  have hcm : cap ≤ 9223372036854775807 ∨ l.length = 0 := by
    rcases hv with ⟨rfl, _⟩ | ⟨b, off, c, e, _, h2, _⟩
    · exact .inr rfl
    · cases e; unfold maxLen at h2; exact .inl (by omega)
  have HV : Hid (RulesR (d + 1) w.heap.size w (.slice q l.length cap) l) := hv
  have HSZ : Hid (∀ r ∈ l, r.length ≤ 100000) := hs
  have HNM : Hid (∀ r ∈ l, ∀ s ∈ r, NmOk s) := hN
  have hmm := @run_makeMap Tryz.prog
  rw [s1] at S0
  clear hv hs hN m1 k2 b1 b2
  go_enter Tryz.func8, Tryz.ntmps8
  go_upto_region 2 with fail
  clear hmm
  first | rw [hw1] | skip
  first | rw [hw2] | skip
  clear hw1 hw2 s1
  go_wp2_with fail
  go_loopw [13] (fun x wr => ∃ k : Nat, x = .int .i64 k ∧ k ≤ l.length ∧ MapIn w.heap.size wr (w.heap.size + 1) (newFm (l.take k)) (lenV (l.take k)) (k * 100000) ∧ Below w.heap.size w wr) (fun x _ => l.length - (intOf x).toNat)
  case atStart => exact ⟨0, rfl, Nat.zero_le _, by simpa using S0, B0⟩
  case round =>
    clear S0 B0
    obtain ⟨k, rfl, hk, hS, hB⟩ := hrel
    by_cases hlt : k < l.length
    · have hki : (k : Int) < (l.length : Int) := by omega
      obtain ⟨r, hr⟩ : ∃ r, l[k]? = some r := ⟨_, List.getElem?_eq_getElem hlt⟩
      have hrm : r ∈ l := List.mem_of_getElem? hr
      obtain ⟨b, off, cs, hq, hbn, hc1, hc2, _, ⟨x, px, mx, kx, rfl, hx⟩, hcell⟩ := RowT.get (HV.out.below hB) hr
      subst hq
      have x0 := hcell 0 _ rfl
      have x1 := hcell 1 _ rfl
      simp only [Nat.add_zero] at x0
      obtain ⟨pr, cr, rfl⟩ := RowT.len hx
      unfold maxLen at hc2
      have hrl := HSZ.out r hrm
      obtain ⟨w3, hw3⟩ : ∃ w3, wr.alloc (.cells #[.slice pr r.length cr, .slice px mx kx] 43) = w3 := ⟨_, rfl⟩
      have b3 : Below wr.heap.size wr w3 := by rw [← hw3]; exact (Below.refl _ _).alloc (Nat.le_refl _) _
      have k3 : Blk w3 wr.heap.size 43 [.slice pr r.length cr, .slice px mx kx] := by rw [← hw3]; exact Blk.new wr 43 _
      have y0 := (blk2 k3).1.1
      have S1 : MapIn w.heap.size w3 (w.heap.size + 1) (addR (newFm (l.take k)) k (r.take 0)) (lenV (l.take k) + selsN (r.take 0)) (k * 100000 + 0) := by simpa [addR, selsN] using hS.next b3
      have B1 : Below w.heap.size w w3 := below_next hB b3
      have HX : Hid (∀ X, Below w.heap.size w X → SelsR (d + 1) w.heap.size X (.slice pr r.length cr) r) := fun X hX => by
        obtain ⟨b', off', cs', hq', _, _, _, _, ⟨x', px', mx', kx', e', hx'⟩, hcell'⟩ := RowT.get (HV.out.below hX) hr
        cases hq'
        have z0 := hcell' 0 _ (by rw [e']; rfl)
        simp only [Nat.add_zero] at z0
        have z1 : X.cell? ⟨b, off + k * 2, none⟩ = wr.cell? ⟨b, off + k * 2, none⟩ := (hX.cell (p := ⟨b, _, none⟩) hbn).trans (hB.cell (p := ⟨b, _, none⟩) hbn).symm
        rw [z0, x0] at z1
        cases z1
        exact hx'
      have HNR : Hid (∀ s ∈ r, NmOk s) := HNM.out r hrm
      have hlv := lenV_le (l.take k) (fun z hz => HSZ.out z (List.mem_of_mem_take hz))
      rw [List.length_take_of_le (by omega)] at hlv
      have HLV : Hid (lenV (l.take k) ≤ k * 100000) := hlv
      have NX : Hid (newFm (l.take (k + 1)) = addR (newFm (l.take k)) k r ∧ lenV (l.take (k + 1)) = lenV (l.take k) + selsN r) := ⟨newAt_snoc l hr, lenV_snoc l hr⟩
      generalize newFm (l.take k) = Fk at *
      generalize lenV (l.take k) = Lk at *
      clear hcell hx hS hB hrm hr k3 hlv
      go_upto_region 5 with fail
      first | rw [hw3] | skip
      clear hw3 x0 x1
      go_wp2_with fail
      clear y0
      obtain ⟨wo, hwo⟩ : ∃ wo, wo = wr := ⟨_, rfl⟩
      subst hwo
      go_loopw [21] (fun x wr => ∃ j : Nat, x = .int .i64 j ∧ j ≤ r.length ∧ MapIn w.heap.size wr (w.heap.size + 1) (addR Fk k (r.take j)) (Lk + selsN (r.take j)) (k * 100000 + j) ∧ Below w.heap.size w wr) (fun x _ => r.length - (intOf x).toNat)
      case atStart => exact ⟨0, rfl, Nat.zero_le _, S1, B1⟩
      case round =>
        clear S1 B1
        obtain ⟨j, rfl, hj, hS, hB⟩ := hrel
        by_cases hjl : j < r.length
        · have hji : (j : Int) < (r.length : Int) := by omega
          obtain ⟨s, hs⟩ : ∃ s, r[j]? = some s := ⟨_, List.getElem?_eq_getElem hjl⟩
          obtain ⟨b2, off2, pv, hq2, hbn2, hd1, hd2, hpv, u0⟩ := SelsR.get (HX.out wr hB) hs
          subst hq2
          unfold maxLen at hd2
          obtain ⟨qp, cp, rfl⟩ := RowT.len hpv
          obtain ⟨w4, hw4⟩ : ∃ w4, wr.alloc (.cells #[.slice qp s.length cp] 50) = w4 := ⟨_, rfl⟩
          have b4 : Below wr.heap.size wr w4 := by rw [← hw4]; exact (Below.refl _ _).alloc (Nat.le_refl _) _
          have k4 : Blk w4 wr.heap.size 50 [.slice qp s.length cp] := by rw [← hw4]; exact Blk.new wr 50 _
          have u1 := (blk1 k4).1
          have hsn := selsN_le (r.take j)
          rw [List.length_take_of_le (by omega)] at hsn
          have hlk := HLV.out
          have hma := mapAdd_any d w.heap.size w4 (w.heap.size + 1) _ _ _ k (hS.next b4) (.slice qp s.length cp) s (PartsR.below hpv (b4.mono hB.size)) (HNR.out s (List.mem_of_getElem? hs)) (by omega) (by omega)
          rw [← addR_snoc _ _ _ hs, Nat.add_assoc, ← selsN_snoc _ hs] at hma
          have B4 : Below w.heap.size w w4 := below_next hB b4
          clear hS hs hpv k4 hsn hlk
          go_upto_region 8 with fail
          first | rw [hw4] | skip
          clear hw4 u0
          go_wp2_with fail
          refine hma.mono ?_
          clear hma u1
          rintro e w5 ⟨rfl, S5, b5⟩
          have B5 : Below w.heap.size w w5 := B4.trans b5
          rw [Nat.add_assoc (k * 100000)] at S5
          clear B4 b5 b4 hB
          go_wp2
          exact ⟨⟨j + 1, by go_num, by omega, S5, B5⟩, by simp [intOf]; omega⟩
        · have hji : ¬ (j : Int) < (r.length : Int) := by omega
          obtain ⟨e1, e2⟩ := NX.out
          rw [List.take_of_length_le (by omega)] at hS
          rw [← e1, ← e2] at hS
          have S9 : MapIn w.heap.size wr (w.heap.size + 1) (newFm (l.take (k + 1))) (lenV (l.take (k + 1))) ((k + 1) * 100000) := by
            obtain ⟨γ, M, cnt, h1, h2⟩ := hS
            exact ⟨γ, M, cnt, by omega, h2⟩
          clear hS e1 e2
          go_wp2
          exact ⟨⟨k + 1, by go_num, by omega, S9, hB⟩, by simp [intOf]; omega⟩
    · have hki : ¬ (k : Int) < (l.length : Int) := by omega
      obtain rfl : k = l.length := by omega
      rw [List.take_length] at hS
      have S9 : MapIn w.heap.size wr (w.heap.size + 1) (newFm l) (lenV l) 10000000000 := by
        obtain ⟨γ, M, cnt, h1, h2⟩ := hS
        exact ⟨γ, M, cnt, by omega, h2⟩
      clear hS
      go_wp2
      go_ret
      exact ⟨w.heap.size + 1, rfl, S9, hB⟩

end Go.Proofs.YtchfnnoabejlpabGreat.Bk
