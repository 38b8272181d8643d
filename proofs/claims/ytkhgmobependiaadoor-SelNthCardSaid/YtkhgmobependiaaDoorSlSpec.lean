/- Selectors in plain words: trees, and how tokens are read. -/
import Derived.Test.YtkhgmobependiaaDoorRsMem
import Derived.Test.YtkhgmobependiaaDoorDcLow
import Derived.Test.YtkhgmobependiaaDoorTre
namespace Go.Proofs.YtkhgmobependiaaDoor.Sl
open Go.Proofs.YtkhgmobependiaaDoor.Tre
open Go Go.RowKit

def lowOf (t : Bt) : List UInt8 := Lw.low t.text.data.toList
def lowS (s : ByteArray) : ByteArray := ⟨(Lw.low s.data.toList).toArray⟩
def dropW (r : List Bt) : List Bt := r.dropWhile (fun t => t.kind == 9)
def isSg (t : Bt) (c : Int) : Bool := decide (t.kind = 10 ∧ t.c = c)
/-- A unit of a compound may begin with it. -/
def begU (t : Bt) : Bool := decide (t.kind = 3 ∨ t.kind = 18 ∨ t.kind = 11) || isSg t 46
/-- A compound may begin with it. -/
def begC (t : Bt) : Bool := (decide (t.kind = 1) || isSg t 42) || begU t
def combO (t : Bt) : Option Int := if isSg t 62 then some 2 else if isSg t 43 then some 3 else if isSg t 126 then some 4 else none

def oddT : List UInt8 := [111, 100, 100]
def evenT : List UInt8 := [101, 118, 101, 110]
def abV (t : Bt) : Option (Int × Int) :=
  if t.kind = 1 ∧ lowOf t = oddT then some (2, 1) else if t.kind = 1 ∧ lowOf t = evenT then some (2, 0) else if t.kind = 6 ∧ t.whole = true then some (0, t.n.tdiv 1000) else none
def nthV (r : List Bt) : Option (Int × Int × List Bt) := match dropW r with
  | [] => none
  | t :: r1 => (abV t).bind fun x => match dropW r1 with
    | e :: r2 => if e.kind = 17 then some (x.1, x.2, r2) else none
    | [] => none

/-- The operator that a sign ahead of = is. -/
def opOf (t : Bt) : Option Int := if isSg t 126 then some 2 else if isSg t 124 then some 3 else if isSg t 94 then some 4 else if isSg t 36 then some 5 else if isSg t 42 then some 6 else none
def opV : List Bt → Option (Int × List Bt)
  | [] => none
  | t :: r => match opOf t with
    | some op => match r with
      | e :: r2 => if isSg e 61 then some (op, r2) else none
      | [] => none
    | none => if isSg t 61 then some (1, r) else none
def attrV (r : List Bt) : Option (At × List Bt) := match dropW r with
  | [] => none
  | nm :: r1 => if nm.kind = 1 then match dropW r1 with
      | [] => none
      | t :: r3 => if t.kind = 19 then some (⟨lowS nm.text, 0, ⟨#[]⟩⟩, r3) else (opV (t :: r3)).bind fun o => match dropW o.2 with
        | [] => none
        | h :: r5 => if h.kind = 1 ∨ h.kind = 4 then match dropW r5 with
            | e :: r6 => if e.kind = 19 then some (⟨lowS nm.text, o.1, h.text⟩, r6) else none
            | [] => none
          else none
    else none

def rootT : List UInt8 := [114, 111, 111, 116]
def firstT : List UInt8 := [102, 105, 114, 115, 116, 45, 99, 104, 105, 108, 100]
def lastT : List UInt8 := [108, 97, 115, 116, 45, 99, 104, 105, 108, 100]
def onlyT : List UInt8 := [111, 110, 108, 121, 45, 99, 104, 105, 108, 100]
def emptyT : List UInt8 := [101, 109, 112, 116, 121]
def nthT : List UInt8 := [110, 116, 104, 45, 99, 104, 105, 108, 100]
def notT : List UInt8 := [110, 111, 116]
def isT : List UInt8 := [105, 115]
def plainV (w : List UInt8) : Option Int := if w = rootT then some 1 else if w = firstT then some 2 else if w = lastT then some 3 else if w = onlyT then some 4 else if w = emptyT then some 5 else none

/-- How a list within not or is is read. -/
abbrev Inner := List Bt → Option (List Sel × List Bt)
def listedV (L : Inner) (kind : Int) (r : List Bt) : Option (Ps × List Bt) := (L r).bind fun x => match x.2 with
  | e :: r2 => if e.kind = 17 then some (.mk kind 0 0 x.1, r2) else none
  | [] => none
def pseudoV (L : Inner) : List Bt → Option (Ps × List Bt)
  | [] => none
  | t :: r => if t.kind = 1 then (plainV (lowOf t)).map fun k => (.mk k 0 0 [], r)
    else if t.kind = 20 then
      if lowOf t = nthT then (nthV r).map fun x => (.mk 6 x.1 x.2.1 [], x.2.2)
      else if lowOf t = notT then listedV L 7 r
      else if lowOf t = isT then listedV L 8 r
      else none
    else none
/-- The rest of the unit that begins with t. -/
def unitV (L : Inner) (c : Cp) (t : Bt) (r : List Bt) : Option (Cp × List Bt) :=
  if t.kind = 3 then some (c.addId t.text, r)
  else if t.kind = 18 then (attrV r).map fun x => (c.addAttr x.1, x.2)
  else if t.kind = 11 then (pseudoV L r).map fun x => (c.addPs x.1, x.2)
  else match r with
    | n :: r2 => if n.kind = 1 then some (c.addClass n.text, r2) else none
    | [] => none
def unitsV (L : Inner) : Nat → Cp → List Bt → Option (Cp × List Bt)
  | 0, _, _ => none
  | _ + 1, c, [] => some (c, [])
  | f + 1, c, t :: r => if begU t then (unitV L c t r).bind fun x => unitsV L f x.1 x.2 else some (c, t :: r)
def tagV : List Bt → ByteArray × List Bt
  | [] => (⟨#[]⟩, [])
  | t :: r => if isSg t 42 then (⟨#[]⟩, r) else if t.kind = 1 then (lowS t.text, r) else (⟨#[]⟩, t :: r)
def compV (L : Inner) (r : List Bt) : Option (Cp × List Bt) :=
  (unitsV L (r.length + 1) (.mk (tagV r).1 [] [] [] []) (tagV r).2).bind fun x => if x.2.length < r.length then some x else none
/-- What stands between two compounds; none: the selector ends. -/
def betwV (r : List Bt) : Option (Int × List Bt) := match dropW r with
  | [] => none
  | t :: r1 => match combO t with
    | some c => some (c, dropW r1)
    | none => if (dropW r).length < r.length ∧ begC t = true then some (1, t :: r1) else none
def partsV (L : Inner) : Nat → Int → List Pt → List Bt → Option (List Pt × List Bt)
  | 0, _, _, _ => none
  | f + 1, comb, pre, r => (compV L r).bind fun x => match betwV x.2 with
    | some y => partsV L f y.1 (pre ++ [(comb, x.1)]) y.2
    | none => some (pre ++ [(comb, x.1)], dropW x.2)
def selV (L : Inner) (r : List Bt) : Option (Sel × List Bt) := partsV L (r.length + 1) 0 [] (dropW r)
def listF (L : Inner) : Nat → List Sel → List Bt → Option (List Sel × List Bt)
  | 0, _, _ => none
  | f + 1, pre, r => (selV L r).bind fun x => match x.2 with
    | t :: r2 => if t.kind = 13 then listF L f (pre ++ [x.1]) r2 else some (pre ++ [x.1], t :: r2)
    | [] => some (pre ++ [x.1], [])
/-- A list, where so many lists may still stand in it. -/
def listV : Nat → List Bt → Option (List Sel × List Bt)
  | 0, r => listF (fun _ => none) (r.length + 1) [] r
  | d + 1, r => listF (listV d) (r.length + 1) [] r
def innerV : Nat → Inner
  | 0 => fun _ => none
  | d + 1 => listV d
theorem listV_eq (d : Nat) (r : List Bt) : listV d r = listF (innerV d) (r.length + 1) [] r := by cases d <;> rfl
def parseV (ts : List Bt) : Option (List Sel) := if 1000 < ts.length then none else match listV 8 ts with
  | some (l, []) => some l
  | _ => none

/-! ### fuel -/
theorem dropW_le (r : List Bt) : (dropW r).length ≤ r.length := (List.dropWhile_sublist _).length_le
theorem attrV_le {r : List Bt} {x : At × List Bt} (h : attrV r = some x) : x.2.length ≤ r.length := by
  have opL : ∀ {l : List Bt} {o : Int × List Bt}, opV l = some o → o.2.length ≤ l.length := by
    intro l o h
    cases l with
    | nil => simp [opV] at h
    | cons t r =>
      simp only [opV] at h
      split at h
      · split at h
        · split at h
          · cases h; simp; omega
          · cases h
        · cases h
      · split at h
        · cases h; simp
        · cases h
  have h0 := dropW_le r
  unfold attrV at h
  split at h
  · cases h
  · rename_i nm r1 e0
    rw [e0, List.length_cons] at h0
    have h1 := dropW_le r1
    split at h
    · split at h
      · cases h
      · rename_i t r3 e1
        rw [e1, List.length_cons] at h1
        split at h
        · cases h; simp only; omega
        · obtain ⟨o, ho, h⟩ := Option.bind_eq_some_iff.1 h
          have h2 := opL ho
          rw [List.length_cons] at h2
          have h3 := dropW_le o.2
          split at h
          · cases h
          · rename_i hh r5 e2
            rw [e2, List.length_cons] at h3
            have h4 := dropW_le r5
            split at h
            · split at h
              · rename_i e r6 e3
                rw [e3, List.length_cons] at h4
                split at h
                · cases h; simp only; omega
                · cases h
              · cases h
            · cases h
    · cases h
theorem nthV_le {r : List Bt} {x : Int × Int × List Bt} (h : nthV r = some x) : x.2.2.length ≤ r.length := by
  have h0 := dropW_le r
  unfold nthV at h
  split at h
  · cases h
  · rename_i t r1 e0
    rw [e0, List.length_cons] at h0
    have h1 := dropW_le r1
    obtain ⟨o, ho, h⟩ := Option.bind_eq_some_iff.1 h
    split at h
    · rename_i e r2 e1
      rw [e1, List.length_cons] at h1
      split at h
      · cases h; simp only; omega
      · cases h
    · cases h
/-- What is left is no more than there was. -/
def Less (L : Inner) : Prop := ∀ r x, L r = some x → x.2.length ≤ r.length
theorem listedV_le {L : Inner} (hL : Less L) {k : Int} {r : List Bt} {x : Ps × List Bt} (h : listedV L k r = some x) : x.2.length ≤ r.length := by
  unfold listedV at h
  obtain ⟨y, hy, h⟩ := Option.bind_eq_some_iff.1 h
  have h0 := hL _ _ hy
  split at h
  · rename_i e r2 e1
    rw [e1, List.length_cons] at h0
    split at h
    · cases h; simp only; omega
    · cases h
  · cases h
theorem pseudoV_le {L : Inner} (hL : Less L) {r : List Bt} {x : Ps × List Bt} (h : pseudoV L r = some x) : x.2.length ≤ r.length := by
  cases r with
  | nil => simp [pseudoV] at h
  | cons t r =>
    simp only [pseudoV] at h
    rw [List.length_cons]
    split at h
    · obtain ⟨k, _, rfl⟩ := Option.map_eq_some_iff.1 h
      simp only; omega
    · split at h
      · split at h
        · obtain ⟨k, hk, rfl⟩ := Option.map_eq_some_iff.1 h
          have := nthV_le hk
          simp only; omega
        · split at h
          · have := listedV_le hL h; omega
          · split at h
            · have := listedV_le hL h; omega
            · cases h
      · cases h
theorem unitV_le {L : Inner} (hL : Less L) {c : Cp} {t : Bt} {r : List Bt} {x : Cp × List Bt} (h : unitV L c t r = some x) : x.2.length ≤ r.length := by
  unfold unitV at h
  split at h
  · cases h; exact Nat.le_refl _
  · split at h
    · obtain ⟨k, hk, rfl⟩ := Option.map_eq_some_iff.1 h
      exact attrV_le hk
    · split at h
      · obtain ⟨k, hk, rfl⟩ := Option.map_eq_some_iff.1 h
        exact pseudoV_le hL hk
      · split at h
        · split at h
          · cases h; simp
          · cases h
        · cases h
theorem unitsV_more {L : Inner} (hL : Less L) : ∀ (f g : Nat) (c : Cp) (r : List Bt), r.length < f → r.length < g → unitsV L f c r = unitsV L g c r
  | 0, _, _, _, h, _ => absurd h (Nat.not_lt_zero _)
  | _ + 1, 0, _, _, _, h => absurd h (Nat.not_lt_zero _)
  | _ + 1, _ + 1, _, [], _, _ => rfl
  | f + 1, g + 1, c, t :: r, hf, hg => by
    simp only [List.length_cons] at hf hg
    simp only [unitsV]
    split
    · cases h : unitV L c t r with
      | none => rfl
      | some x =>
        have := unitV_le hL h
        exact unitsV_more hL f g x.1 x.2 (by omega) (by omega)
    · rfl
theorem unitsV_le {L : Inner} (hL : Less L) : ∀ (f : Nat) (c : Cp) (r : List Bt) (x : Cp × List Bt), unitsV L f c r = some x → x.2.length ≤ r.length
  | 0, _, _, _, h => by simp [unitsV] at h
  | _ + 1, _, [], x, h => by simp [unitsV] at h; subst h; exact Nat.le_refl _
  | f + 1, c, t :: r, x, h => by
    simp only [unitsV] at h
    split at h
    · obtain ⟨y, hy, h⟩ := Option.bind_eq_some_iff.1 h
      have h1 := unitV_le hL hy
      have h2 := unitsV_le hL f y.1 y.2 x h
      rw [List.length_cons]; omega
    · cases h; exact Nat.le_refl _
theorem compV_lt {L : Inner} {r : List Bt} {x : Cp × List Bt} (h : compV L r = some x) : x.2.length < r.length := by
  unfold compV at h
  obtain ⟨y, hy, h⟩ := Option.bind_eq_some_iff.1 h
  split at h
  · cases h; assumption
  · cases h
theorem betwV_le {r : List Bt} {x : Int × List Bt} (h : betwV r = some x) : x.2.length ≤ r.length := by
  have h0 := dropW_le r
  unfold betwV at h
  split at h
  · cases h
  · rename_i t r1 e
    rw [e, List.length_cons] at h0
    have h1 := dropW_le r1
    split at h
    · cases h; simp only; omega
    · split at h
      · cases h; simp only [List.length_cons]; omega
      · cases h
theorem partsV_more {L : Inner} : ∀ (f g : Nat) (c : Int) (pre : List Pt) (r : List Bt), r.length < f → r.length < g → partsV L f c pre r = partsV L g c pre r
  | 0, _, _, _, _, h, _ => absurd h (Nat.not_lt_zero _)
  | _ + 1, 0, _, _, _, _, h => absurd h (Nat.not_lt_zero _)
  | f + 1, g + 1, c, pre, r, hf, hg => by
    simp only [partsV]
    cases h : compV L r with
    | none => rfl
    | some x =>
      have h1 := compV_lt h
      simp only [Option.bind_some]
      cases h2 : betwV x.2 with
      | none => rfl
      | some y =>
        have h3 := betwV_le h2
        exact partsV_more f g _ _ _ (by omega) (by omega)
theorem partsV_lt {L : Inner} : ∀ (f : Nat) (c : Int) (pre : List Pt) (r : List Bt) (x : List Pt × List Bt), partsV L f c pre r = some x → x.2.length < r.length
  | 0, _, _, _, _, h => by simp [partsV] at h
  | f + 1, c, pre, r, x, h => by
    simp only [partsV] at h
    obtain ⟨y, hy, h⟩ := Option.bind_eq_some_iff.1 h
    have h1 := compV_lt hy
    split at h
    · rename_i z hz
      have h2 := betwV_le hz
      have h3 := partsV_lt f _ _ _ x h
      omega
    · cases h
      have := dropW_le y.2
      simp only; omega
theorem selV_lt {L : Inner} {r : List Bt} {x : Sel × List Bt} (h : selV L r = some x) : x.2.length < r.length := by
  have := partsV_lt _ _ _ _ _ h
  have := dropW_le r
  omega
theorem listF_more {L : Inner} : ∀ (f g : Nat) (pre : List Sel) (r : List Bt), r.length < f → r.length < g → listF L f pre r = listF L g pre r
  | 0, _, _, _, h, _ => absurd h (Nat.not_lt_zero _)
  | _ + 1, 0, _, _, _, h => absurd h (Nat.not_lt_zero _)
  | f + 1, g + 1, pre, r, hf, hg => by
    simp only [listF]
    cases h : selV L r with
    | none => rfl
    | some x =>
      have h1 := selV_lt h
      simp only [Option.bind_some]
      split
      · rename_i t r2 e
        rw [e, List.length_cons] at h1
        split
        · exact listF_more f g _ _ (by omega) (by omega)
        · rfl
      · rfl
theorem listF_lt {L : Inner} : ∀ (f : Nat) (pre : List Sel) (r : List Bt) (x : List Sel × List Bt), listF L f pre r = some x → x.2.length < r.length
  | 0, _, _, _, h => by simp [listF] at h
  | f + 1, pre, r, x, h => by
    simp only [listF] at h
    obtain ⟨y, hy, h⟩ := Option.bind_eq_some_iff.1 h
    have h1 := selV_lt hy
    split at h
    · rename_i t r2 e
      rw [e, List.length_cons] at h1
      split at h
      · have := listF_lt f _ _ x h
        omega
      · cases h; simp only [List.length_cons]; omega
    · rename_i e
      cases h; simp only [List.length_nil]; omega
theorem innerV_less : ∀ d, Less (innerV d)
  | 0 => fun _ _ h => by simp [innerV] at h
  | d + 1 => fun r x h => by
    have h' : listV d r = some x := h
    rw [listV_eq] at h'
    exact Nat.le_of_lt (listF_lt _ _ _ _ h')

end Go.Proofs.YtkhgmobependiaaDoor.Sl
