/- Plain facts: the text of an attribute's condition, its tokens, and what they are read as. -/
import Derived.Test.YtkhgmobependiaaDoorSlTx
import Derived.Test.YtkhgmobependiaaDoorSlDeep
import Derived.Test.YtkhgmobependiaaDoorSlSpec
namespace Go.Proofs.YtkhgmobependiaaDoor.Sl
open Go.Proofs.YtkhgmobependiaaDoor.Tre
open Go Go.RowKit

def lows (l : List UInt8) : Prop := ∀ u ∈ l, 97 ≤ u.toNat ∧ u.toNat ≤ 122
theorem lows_letters {l : List UInt8} (h : lows l) : (ints l).all letter = true := by
  rw [List.all_eq_true]
  intro c hc
  obtain ⟨u, hu, rfl⟩ := List.mem_map.1 hc
  have := h u hu
  exact letter_iff.2 (.inl (by omega))
theorem lows_low {l : List UInt8} (h : lows l) : lowS ⟨l.toArray⟩ = ⟨l.toArray⟩ := by
  have e : Lw.low l = l := by
    unfold Lw.low
    conv => rhs; rw [← List.map_id l]
    refine List.map_congr_left fun u hu => ?_
    have := h u hu
    unfold Lw.lowB
    rw [if_neg (by omega)]
    rfl
  show (⟨(Lw.low l).toArray⟩ : ByteArray) = _
  rw [e]

/-! ### the text -/
def gapB : Bool → List UInt8
  | true => [32, 10, 47, 42, 32, 42, 47, 32]
  | false => []
def signB (op : Nat) : List UInt8 := match op with
  | 1 => [61]
  | 2 => [126, 61]
  | 3 => [124, 61]
  | 4 => [94, 61]
  | 5 => [36, 61]
  | _ => [42, 61]
def wordB (q : Bool) (w : List UInt8) : List UInt8 := if q then 34 :: w ++ [34] else w
def attB (nm : List UInt8) (op : Nat) (w : List UInt8) (q bl : Bool) : List UInt8 :=
  91 :: (gapB bl ++ (nm ++ (gapB bl ++ (if op = 0 then [] else signB op ++ (gapB bl ++ (wordB q w ++ gapB bl))))))

/-! ### its tokens -/
def whT2 : Bool → List Bt
  | true => [⟨9, ⟨#[]⟩, 0, false, 0⟩, ⟨9, ⟨#[]⟩, 0, false, 0⟩]
  | false => []
def sgT (c : Int) : Bt := ⟨10, ⟨#[]⟩, 0, false, c⟩
def signT (op : Nat) : List Bt := match op with
  | 1 => [sgT 61]
  | 2 => [sgT 126, sgT 61]
  | 3 => [sgT 124, sgT 61]
  | 4 => [sgT 94, sgT 61]
  | 5 => [sgT 36, sgT 61]
  | _ => [sgT 42, sgT 61]
def txT (k : Int) (l : List UInt8) : Bt := ⟨k, ⟨l.toArray⟩, 0, false, 0⟩
def openT : Bt := ⟨18, ⟨#[]⟩, 0, false, 0⟩
def shutT : Bt := ⟨19, ⟨#[]⟩, 0, false, 0⟩
def restT (op : Nat) (w : List UInt8) (q bl : Bool) (R : List Bt) : List Bt := if op = 0 then R else signT op ++ (whT2 bl ++ (txT (if q then 4 else 1) w :: (whT2 bl ++ R)))
def attT (nm : List UInt8) (op : Nat) (w : List UInt8) (q bl : Bool) (R : List Bt) : List Bt := openT :: (whT2 bl ++ (txT 1 nm :: (whT2 bl ++ restT op w q bl R)))

abbrev tk (x : List Int) : List Bt := (toks Ref.nv x).map Ref.btOf
theorem tk_gap (bl : Bool) {x : List Int} (hx : isWhite (see x 0) = false) : tk (ints (gapB bl) ++ x) = whT2 bl ++ tk x := by
  cases bl with
  | false => rfl
  | true =>
    have e : ints (gapB true) ++ x = 32 :: [10] ++ (47 :: 42 :: (32 :: 42 :: 47 :: (32 :: [] ++ x))) := rfl
    have ew : Ref.btOf ⟨9, [], 0, false, 0⟩ = ⟨9, ⟨#[]⟩, 0, false, 0⟩ := btOf_bytes 9 [] (by decide)
    have hs : skipC (32 :: 42 :: 47 :: (32 :: [] ++ x)) = 32 :: [] ++ x := rfl
    rw [e]
    show (toks Ref.nv _).map Ref.btOf = _
    rw [tk_white Ref.nv (by decide) (by rw [see_zero]; decide), toks_comment, hs, tk_white Ref.nv (by decide) hx]
    simp only [List.map_cons, ew]
    rfl
theorem tk_sign1 {c : Int} (h : c = 61 ∨ c = 126 ∨ c = 124 ∨ c = 94 ∨ c = 36 ∨ c = 42) (x : List Int) : tk (c :: x) = sgT c :: tk x := by
  show (toks Ref.nv _).map Ref.btOf = _
  rw [tk_mark Ref.nv (by omega), if_neg (by rcases h with rfl | rfl | rfl | rfl | rfl | rfl <;> decide), List.map_cons]
  rfl
theorem tk_sign (op : Nat) (x : List Int) : tk (ints (signB op) ++ x) = signT op ++ tk x := by
  unfold signB signT
  split
  · exact tk_sign1 (c := 61) (.inl rfl) x
  · exact (tk_sign1 (c := 126) (by omega) (61 :: x)).trans (congrArg (sgT 126 :: ·) (tk_sign1 (by omega) x))
  · exact (tk_sign1 (c := 124) (by omega) (61 :: x)).trans (congrArg (sgT 124 :: ·) (tk_sign1 (by omega) x))
  · exact (tk_sign1 (c := 94) (by omega) (61 :: x)).trans (congrArg (sgT 94 :: ·) (tk_sign1 (by omega) x))
  · exact (tk_sign1 (c := 36) (by omega) (61 :: x)).trans (congrArg (sgT 36 :: ·) (tk_sign1 (by omega) x))
  · exact (tk_sign1 (c := 42) (by omega) (61 :: x)).trans (congrArg (sgT 42 :: ·) (tk_sign1 (by omega) x))
/-- What may stand behind a name. -/
def After (x : List Int) : Prop := namePt (see x 0) = false ∧ see x 0 ≠ 92 ∧ see x 0 ≠ 40
theorem tk_nm {l : List UInt8} (hl : lows l) (h0 : l ≠ []) {x : List Int} (hx : After x) : tk (ints l ++ x) = txT 1 l :: tk x := by
  cases l with
  | nil => exact absurd rfl h0
  | cons u r =>
    show (toks Ref.nv ((u.toNat : Int) :: ints r ++ x)).map Ref.btOf = _
    have hle : ((u.toNat : Int) :: ints r).all letter = true := lows_letters hl
    rw [tk_name Ref.nv hle hx.1 hx.2.1 hx.2.2, List.map_cons]
    exact congrArg (· :: _) (btOf_bytes 1 (u :: r) (fun y hy => by have := hl y hy; omega))
theorem tk_string {l : List UInt8} (hl : lows l) (x : List Int) : tk (34 :: (ints l ++ 34 :: x)) = txT 4 l :: tk x := by
  have hi : (ints l).all inStr = true := List.all_eq_true.2 fun c hc => by
    obtain ⟨u, hu, rfl⟩ := List.mem_map.1 hc
    have := hl u hu
    simp [inStr]
    omega
  have hs : str 34 (ints l ++ 34 :: x) = (some (ints l), x) := by
    rw [str_run (.inl rfl) (34 :: x) _ hi, str_cons, if_pos rfl]
    simp
  show (toks Ref.nv _).map Ref.btOf = _
  rw [toks_step Ref.nv (t := ⟨4, ints l, 0, false, 0⟩) (r := x) (by rw [step_str Ref.nv (.inl rfl), hs]) (by simp), List.map_cons]
  exact congrArg (· :: _) (btOf_bytes 4 l (fun y hy => by have := hl y hy; omega))
theorem tk_word (q : Bool) {l : List UInt8} (hl : lows l) (h0 : l ≠ []) {x : List Int} (hx : After x) : tk (ints (wordB q l) ++ x) = txT (if q then 4 else 1) l :: tk x := by
  cases q with
  | true =>
    have e : ints (wordB true l) ++ x = 34 :: (ints l ++ 34 :: x) := by simp [wordB, ints]
    rw [e]
    exact tk_string hl x
  | false => exact tk_nm hl h0 hx

theorem tk_open (x : List Int) : tk (91 :: x) = openT :: tk x := by
  show (toks Ref.nv _).map Ref.btOf = _
  rw [tk_mark Ref.nv (by omega), List.map_cons]
  rfl
theorem tk_shut : tk [93] = [shutT] := by
  show (toks Ref.nv _).map Ref.btOf = _
  rw [tk_mark Ref.nv (by omega), toks_nil, List.map_cons]
  rfl
theorem after_gap (bl : Bool) {x : List Int} (h : After x) : After (ints (gapB bl) ++ x) := by
  cases bl with
  | false => exact h
  | true => exact (show namePt 32 = false ∧ (32 : Int) ≠ 92 ∧ (32 : Int) ≠ 40 by decide)
theorem low_head {l : List UInt8} (hl : lows l) (h0 : l ≠ []) (x : List Int) : isWhite (see (ints l ++ x) 0) = false := by
  cases l with
  | nil => exact absurd rfl h0
  | cons u r =>
    have := hl u (List.mem_cons_self ..)
    exact isWhite_no (c := (u.toNat : Int)) (by omega)
theorem word_head (q : Bool) {l : List UInt8} (hl : lows l) (h0 : l ≠ []) (x : List Int) : isWhite (see (ints (wordB q l) ++ x) 0) = false := by
  cases q with
  | true => exact (show isWhite 34 = false by decide)
  | false => exact low_head hl h0 x
theorem sign_after (op : Nat) (x : List Int) : After (ints (signB op) ++ x) ∧ isWhite (see (ints (signB op) ++ x) 0) = false := by
  unfold signB
  split
  · exact (show (namePt 61 = false ∧ (61 : Int) ≠ 92 ∧ (61 : Int) ≠ 40) ∧ isWhite 61 = false by decide)
  · exact (show (namePt 126 = false ∧ (126 : Int) ≠ 92 ∧ (126 : Int) ≠ 40) ∧ isWhite 126 = false by decide)
  · exact (show (namePt 124 = false ∧ (124 : Int) ≠ 92 ∧ (124 : Int) ≠ 40) ∧ isWhite 124 = false by decide)
  · exact (show (namePt 94 = false ∧ (94 : Int) ≠ 92 ∧ (94 : Int) ≠ 40) ∧ isWhite 94 = false by decide)
  · exact (show (namePt 36 = false ∧ (36 : Int) ≠ 92 ∧ (36 : Int) ≠ 40) ∧ isWhite 36 = false by decide)
  · exact (show (namePt 42 = false ∧ (42 : Int) ≠ 92 ∧ (42 : Int) ≠ 40) ∧ isWhite 42 = false by decide)
/-- The two ends that are asked for. -/
def endX (b : Bool) : List UInt8 := if b then [93] else []
theorem end_after (b : Bool) : After (ints (endX b)) ∧ isWhite (see (ints (endX b)) 0) = false := by
  cases b <;> exact ⟨by unfold After; decide, by decide⟩
def endT (b : Bool) : List Bt := if b then [shutT] else []
theorem tk_end (b : Bool) : tk (ints (endX b)) = endT b := by
  cases b with
  | true => exact tk_shut
  | false => rfl
theorem tk_att {nm w : List UInt8} (op : Nat) (q bl b : Bool) (hn : lows nm) (hw : lows w) (n0 : nm ≠ []) (w0 : w ≠ []) : tk (ints (attB nm op w q bl) ++ ints (endX b)) = attT nm op w q bl (endT b) := by
  have hx := end_after b
  by_cases h : op = 0
  · have e : ints (attB nm op w q bl) ++ ints (endX b) = 91 :: (ints (gapB bl) ++ (ints nm ++ (ints (gapB bl) ++ ints (endX b)))) := by simp [attB, ints, h]
    rw [e, tk_open, tk_gap bl (low_head hn n0 _), tk_nm hn n0 (after_gap bl hx.1), tk_gap bl hx.2, tk_end]
    simp only [attT, restT, if_pos h]
  · have e : ints (attB nm op w q bl) ++ ints (endX b) = 91 :: (ints (gapB bl) ++ (ints nm ++ (ints (gapB bl) ++ (ints (signB op) ++ (ints (gapB bl) ++ (ints (wordB q w) ++ (ints (gapB bl) ++ ints (endX b)))))))) := by simp [attB, ints, h]
    have hs := sign_after op (ints (gapB bl) ++ (ints (wordB q w) ++ (ints (gapB bl) ++ ints (endX b))))
    rw [e, tk_open, tk_gap bl (low_head hn n0 _), tk_nm hn n0 (after_gap bl hs.1), tk_gap bl hs.2, tk_sign, tk_gap bl (word_head q hw w0 _), tk_word q hw w0 (after_gap bl hx.1), tk_gap bl hx.2, tk_end]
    simp only [attT, restT, if_neg h]
theorem lows_plain {l : List UInt8} (h : lows l) : ∀ u ∈ l, plainU u := fun u hu => by
  have := h u hu
  unfold plainU
  omega
theorem gap_plain (b : Bool) : ∀ u ∈ gapB b, plainU u := by
  cases b <;> (unfold plainU; decide)
theorem sign_plain (op : Nat) : ∀ u ∈ signB op, plainU u := by
  unfold signB
  split <;> (unfold plainU; decide)
theorem word_plain (q : Bool) {l : List UInt8} (h : lows l) : ∀ u ∈ wordB q l, plainU u := by
  cases q with
  | false => exact lows_plain h
  | true =>
    intro u hu
    simp only [wordB, if_true, List.cons_append, List.mem_cons, List.mem_append, List.not_mem_nil, or_false] at hu
    rcases hu with rfl | hu | rfl
    · unfold plainU; decide
    · exact lows_plain h u hu
    · unfold plainU; decide
theorem end_plain (b : Bool) : ∀ u ∈ endX b, plainU u := by
  cases b <;> (unfold plainU; decide)
theorem att_plain {nm w : List UInt8} (op : Nat) (q bl : Bool) (hn : lows nm) (hw : lows w) : ∀ u ∈ attB nm op w q bl, plainU u := by
  intro u hu
  simp only [attB, List.mem_cons, List.mem_append] at hu
  rcases hu with rfl | hu | hu | hu | hu
  · unfold plainU; decide
  · exact gap_plain bl u hu
  · exact lows_plain hn u hu
  · exact gap_plain bl u hu
  · split at hu
    · cases hu
    · simp only [List.mem_append] at hu
      rcases hu with hu | hu | hu | hu
      · exact sign_plain op u hu
      · exact gap_plain bl u hu
      · exact word_plain q hw u hu
      · exact gap_plain bl u hu
theorem att_tksB {nm w : List UInt8} (op : Nat) (q bl b : Bool) (hn : lows nm) (hw : lows w) (n0 : nm ≠ []) (w0 : w ≠ []) : tksB (attB nm op w q bl ++ endX b) = attT nm op w q bl (endT b) := by
  rw [tksB_ints (fun u hu => (List.mem_append.1 hu).elim (att_plain op q bl hn hw u) (end_plain b u)), ints_app]
  exact tk_att op q bl b hn hw n0 w0

/-! ### how it is read -/
theorem dropW_wh2 (bl : Bool) {t : Bt} {r : List Bt} (h : t.kind ≠ 9) : dropW (whT2 bl ++ t :: r) = t :: r := by
  cases bl <;> simp [dropW, whT2, h]
theorem dropW_end (bl b : Bool) : dropW (whT2 bl ++ endT b) = endT b := by
  cases b with
  | true => exact dropW_wh2 bl (by decide)
  | false => cases bl <;> rfl
theorem sign_open {op : Nat} (h : 1 ≤ op) (h6 : op ≤ 6) (Y : List Bt) : (∃ c r, signT op ++ Y = sgT c :: r) ∧ opV (signT op ++ Y) = some ((op : Int), Y) := by
  obtain rfl | rfl | rfl | rfl | rfl | rfl : op = 1 ∨ op = 2 ∨ op = 3 ∨ op = 4 ∨ op = 5 ∨ op = 6 := by omega
  all_goals exact ⟨⟨_, _, rfl⟩, rfl⟩
theorem attrV_att {nm w : List UInt8} {op : Nat} (q bl b : Bool) (hn : lows nm) (h6 : op ≤ 6) :
    attrV (whT2 bl ++ (txT 1 nm :: (whT2 bl ++ restT op w q bl (endT b)))) = if b then some (⟨⟨nm.toArray⟩, op, if op = 0 then ⟨#[]⟩ else ⟨w.toArray⟩⟩, []) else none := by
  have hlow : lowS (txT 1 nm).text = ⟨nm.toArray⟩ := lows_low hn
  unfold attrV
  rw [dropW_wh2 bl (show (txT 1 nm).kind ≠ 9 by show (1 : Int) ≠ 9; decide)]
  simp only [show (txT 1 nm).kind = 1 from rfl, if_true]
  by_cases h : op = 0
  · subst h
    simp only [restT, if_true, dropW_end]
    cases b with
    | false => rfl
    | true =>
      show (if (19 : Int) = 19 then some ((⟨lowS (txT 1 nm).text, 0, ⟨#[]⟩⟩ : At), ([] : List Bt)) else _) = _
      rw [if_pos rfl, hlow]
      rfl
  · obtain ⟨⟨c, r, e⟩, ho⟩ := sign_open (by omega) h6 (whT2 bl ++ (txT (if q then 4 else 1) w :: (whT2 bl ++ endT b)))
    simp only [restT, if_neg h]
    have hk : (txT (if q then 4 else 1) w).kind ≠ 9 ∧ ((txT (if q then 4 else 1) w).kind = 1 ∨ (txT (if q then 4 else 1) w).kind = 4) := by
      cases q with
      | true => exact ⟨(by decide : (4 : Int) ≠ 9), .inr rfl⟩
      | false => exact ⟨(by decide : (1 : Int) ≠ 9), .inl rfl⟩
    rw [e] at ho ⊢
    rw [dropW_wh2 bl (show (sgT c).kind ≠ 9 by show (10 : Int) ≠ 9; decide)]
    simp only [show ¬ (sgT c).kind = 19 by show ¬ (10 : Int) = 19; decide, if_false, ho, Option.bind_some]
    rw [dropW_wh2 bl hk.1]
    simp only [hk.2, if_true, dropW_end]
    cases b with
    | false => rfl
    | true =>
      show (if (19 : Int) = 19 then some ((⟨lowS (txT 1 nm).text, (op : Int), (txT (if q then 4 else 1) w).text⟩ : At), ([] : List Bt)) else _) = _
      rw [if_pos rfl, hlow]
      rfl
def attA (nm : List UInt8) (op : Nat) (w : List UInt8) : At := ⟨⟨nm.toArray⟩, op, if op = 0 then ⟨#[]⟩ else ⟨w.toArray⟩⟩
theorem att_comp {nm w : List UInt8} {op : Nat} (L : Inner) (q bl b : Bool) (hn : lows nm) (h6 : op ≤ 6) :
    compV L (attT nm op w q bl (endT b)) = if b then some (.mk ⟨#[]⟩ [] [] [attA nm op w] [], []) else none := by
  have ha := attrV_att (w := w) q bl b hn h6
  unfold attT
  generalize whT2 bl ++ (txT 1 nm :: (whT2 bl ++ restT op w q bl (endT b))) = r at *
  have ht : tagV (openT :: r) = (⟨#[]⟩, openT :: r) := by simp [tagV, isSg, openT]
  have hb : begU openT = true := by decide
  have hu : unitV L (.mk ⟨#[]⟩ [] [] [] []) openT r = if b then some (.mk ⟨#[]⟩ [] [] [attA nm op w] [], []) else none := by
    have h1 : openT.kind = 18 := rfl
    simp only [unitV, h1, ha]
    cases b <;> rfl
  unfold compV
  rw [ht]
  simp only [List.length_cons, unitsV, hb, if_true, hu]
  cases b with
  | false => rfl
  | true =>
    simp only [if_true, Option.bind_some]
    cases r with
    | nil => rfl
    | cons t r => rfl
theorem att_list {nm w : List UInt8} {op : Nat} (d : Nat) (q bl b : Bool) (hn : lows nm) (h6 : op ≤ 6) :
    listV d (attT nm op w q bl (endT b)) = if b then some ([[(0, .mk ⟨#[]⟩ [] [] [attA nm op w] [])]], []) else none := by
  have hc := att_comp (w := w) (innerV d) q bl b hn h6
  have hd : dropW (attT nm op w q bl (endT b)) = attT nm op w q bl (endT b) := by simp [dropW, attT, openT]
  have hs : selV (innerV d) (attT nm op w q bl (endT b)) = if b then some ([(0, .mk ⟨#[]⟩ [] [] [attA nm op w] [])], []) else none := by
    unfold selV
    rw [hd]
    simp only [partsV, hc]
    cases b <;> rfl
  rw [listV_eq]
  simp only [listF, hs]
  cases b <;> rfl
theorem wh2_len (b : Bool) : (whT2 b).length ≤ 2 := by cases b <;> decide
theorem sign_len (op : Nat) : (signT op).length ≤ 2 := by unfold signT; split <;> decide
theorem att_parse {nm w : List UInt8} {op : Nat} (q bl b : Bool) (hn : lows nm) (h6 : op ≤ 6) :
    parseV (attT nm op w q bl (endT b)) = if b then some [[(0, .mk ⟨#[]⟩ [] [] [attA nm op w] [])]] else none := by
  have hl : ¬ 1000 < (attT nm op w q bl (endT b)).length := by
    have h1 := wh2_len bl
    have h2 := sign_len op
    have h3 : (endT b).length ≤ 1 := by cases b <;> decide
    unfold attT restT
    split <;> simp only [List.length_cons, List.length_append] <;> omega
  unfold parseV
  rw [if_neg hl, att_list 8 q bl b hn h6]
  cases b <;> rfl

end Go.Proofs.YtkhgmobependiaaDoor.Sl
