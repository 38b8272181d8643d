/- The tokens of a text by the document's own reader. -/
import Derived.Test.YtkhgmobependiaaDoorSlGa
import Derived.Test.YtkhgmobependiaaDoorRtTok
import Derived.Test.YtkhgmobependiaaDoorBsJ
import Derived.Test.YtkhgmobependiaaDoorBack
import Derived.Test.YtkhgmobependiaaDoorBsH
import Derived.Test.YtkhgmobependiaaDoorSlGf
namespace Go.Proofs.YtkhgmobependiaaDoor.Sl
open Go.Proofs.YtkhgmobependiaaDoor.Tre
open Go Go.RowKit Go.Shelf

theorem prep_len5 (bs : List UInt8) : (prep (ipts bs)).length ≤ bs.length := Nat.le_trans (prep_length_le _) (ipts_length_le _)
theorem prep_fixed5 (bs : List UInt8) : (prep (ipts bs)).map fixC = prep (ipts bs) := map_fixC_same _ (fun p hp => (prepared_clean bs p hp).2.2.2)
/-- The tokens of bytes. -/
def tksB (bs : List UInt8) : List Bt := (toks Ref.nv (prep (ipts bs))).map Ref.btOf
theorem tksB_len (bs : List UInt8) : (tksB bs).length ≤ bs.length := by
  unfold tksB
  rw [List.length_map]
  exact Nat.le_trans (toks_le _ _) (prep_len5 bs)
theorem step_n (nv : List Int → Int) (l : List Int) (t : Tk) (h : (step nv l).1 = some t) : t.n = 0 ∨ ∃ x, t.n = nv x := by
  unfold step at h
  split at h
  · cases h
  · split at h
    · cases h; exact .inl rfl
    · split at h
      · cases h
        cases (str (see l 0) l.tail).1 with
        | none => exact .inl rfl
        | some s => exact .inl rfl
      · split at h
        · cases h; exact .inl rfl
        · split at h
          · cases h
            unfold numeric
            simp only
            split
            · exact .inr ⟨_, rfl⟩
            · split <;> exact .inr ⟨_, rfl⟩
          · split at h
            · cases h; exact .inl rfl
            · split at h
              · split at h
                · cases h; exact .inl rfl
                · cases h; exact .inl rfl
              · split at h
                · cases h; exact .inl rfl
                · cases h; exact .inl rfl
theorem toks_n (nv : List Int → Int) : ∀ (n : Nat) (l : List Int), l.length ≤ n → ∀ t ∈ toks nv l, t.n = 0 ∨ ∃ x, t.n = nv x
  | _, [], _ => by simp [toks_nil]
  | 0, c :: r, h => by simp at h
  | n + 1, c :: r, h => by
    intro t ht
    have hs := step_len nv c r
    rw [List.length_cons] at h
    rw [toks_cons] at ht
    rcases List.mem_append.1 ht with ht | ht
    · exact step_n nv _ t (by simpa using ht)
    · exact toks_n nv n _ (by omega) t ht
theorem nv_bound (x : List Int) : -9223372036854775808 ≤ Ref.nv x ∧ Ref.nv x ≤ 9223372036854775807 := by
  unfold Ref.nv Nm.numN
  split
  · rename_i h
    have hd : Nm.allDig (Nm.numA (encs x)) = true ∧ Nm.allDig (Nm.numB (encs x)) = true := by
      unfold Nm.numOk Nm.isNum at h
      simp only [Bool.and_eq_true] at h
      exact h.1
    have h1 := Nm.grown_bounds _ 0 (by omega) (by omega) hd.1
    have h2 := Nm.grown_bounds _ _ h1.1 h1.2 (Nm.thou_dig hd.2)
    have h3 : 0 ≤ Nm.numV (encs x) ∧ Nm.numV (encs x) ≤ 2147483647 := h2
    split <;> omega
  · decide
theorem tksB_good (bs : List UInt8) (hl : bs.length ≤ 100000) : Sl.Good (tksB bs) := fun t ht => by
  obtain ⟨x, hx, rfl⟩ := List.mem_map.1 ht
  have h1 := toks_text Ref.nv _ (prep (ipts bs)) (Nat.le_refl _) x hx
  have h2 := encs_len x.text
  have h3 := prep_len5 bs
  refine ⟨?_, ?_⟩
  · show ((encs x.text).toArray).size ≤ _
    rw [List.size_toArray]
    omega
  · show -9223372036854775808 ≤ x.n ∧ x.n ≤ 9223372036854775807
    rcases toks_n Ref.nv _ (prep (ipts bs)) (Nat.le_refl _) x hx with h | ⟨y, h⟩
    · rw [h]; decide
    · rw [h]; exact nv_bound y
/-- '[]byte(s)': a new row. -/
theorem conv_str (s : ByteArray) (w : World) (hs : s.size ≤ 1000000) : ∃ p m c W, (convert 9 48 (.string s)).run Tryd.prog w = .ok (.slice p m c) W ∧ BytesAt W.heap.size W (.slice p m c) s.data.toList ∧ Below w.heap.size w W ∧ w.heap.size < W.heap.size := by
  have hrun := run_bytes_of_string (P := Tryd.prog) w 9 48 5 s Tryd.underlying9 Tryd.underlying48 Tryd.underlying5
  have hge := grownCap_ge w s.size 0 5
  have hle := grownCap_le_maxLen w s.size 0 5 (by unfold maxLen; omega)
  have hl : s.data.toList.length = s.size := Array.length_toList
  refine ⟨_, _, _, _, hrun, .inr ⟨w.heap.size, 0, _, by rw [hl], by omega, hle, ?_, fun j u hj => ?_⟩, (Below.refl _ w).drew.alloc (Nat.le_refl _) _, ?_⟩
  · rw [World.size_alloc]; exact Nat.lt_succ_self _
  · have hj' : j < s.size := by have := (List.getElem?_eq_some_iff.1 hj).1; omega
    rw [show (⟨w.heap.size, 0 + j, none⟩ : Addr) = ⟨w.drew.heap.size, j, none⟩ by rw [Nat.zero_add]; rfl, World.cell?_alloc_mark]
    unfold bytesRow
    rw [Array.getElem?_append_left (by rw [Array.size_map]; exact hj'), Array.getElem?_map]
    rw [Array.getElem?_toList] at hj
    rw [hj]
    rfl
  · rw [World.size_alloc]; exact Nat.lt_succ_self _


end Go.Proofs.YtkhgmobependiaaDoor.Sl

/- The tokens of a text by the document's own reader; the laws' own 'alive' of chapter 8. -/
namespace Go.Proofs.YtkhgmobependiaaDoor.Sl
open Go.Proofs.YtkhgmobependiaaDoor.Tre
open Go Go.RowKit Go.Shelf

set_option maxRecDepth 100000 in
set_option maxHeartbeats 1000000 in
/-- The laws' own 'of'. -/
theorem of_any (s : ByteArray) (w : World) (hl : s.size ≤ 100000) :
    Calls Tryd.prog 7 #[.string s] w fun e w' => ∃ v', e = .returned v' ∧ w'.ownsRow w.heap.size 58 5 v' (tksB s.data.toList).length (btsCells (tksB s.data.toList)) ∧ Below w.heap.size w w' := by
  obtain ⟨p, m, c, W, hrun, hB, hb, _⟩ := conv_str s w (by omega)
  have hl' : s.data.toList.length ≤ 100000 := by rw [Array.length_toList]; exact hl
  have h1 := refPrepare_any (.slice p m c) s.data.toList W hB (by omega)
  have h2 := fun (v : Value) (X : World) (hr : X.ownsRow 0 3 1 v (prep (ipts s.data.toList)).length ((prep (ipts s.data.toList)).map (Value.int .i64))) => Ref.tokens_any v (prep (ipts s.data.toList)) X (IntsAt.of_owns hr rfl) (by have := prep_len5 s.data.toList; omega)
  rw [prep_fixed5] at h2
  obtain ⟨ts, hts⟩ : ∃ ts, (toks Ref.nv (prep (ipts s.data.toList))).map Ref.btOf = ts := ⟨_, rfl⟩
  have htl : (toks Ref.nv (prep (ipts s.data.toList))).length = ts.length := by rw [← hts, List.length_map]
  unfold tksB
  rw [hts]
  rw [hts] at h2
  rw [htl] at h2
  clear htl hts hB
  go_enter Tryd.func7, Tryd.ntmps7
  go_wp2_with fail
  refine h1.mono ?_
  clear h1
  rintro e w1 ⟨v1, rfl, hr1, b1⟩
  replace h2 := h2 v1 w1 (owns_base hr1 (Nat.zero_le _))
  go_wp2_with fail
  refine h2.mono ?_
  clear h2
  rintro e w2 ⟨v2, rfl, hr2, b2⟩
  have hbb := below_next hb b1
  go_wp2
  go_ret
  exact ⟨v2, rfl, owns_base hr2 hbb.size, below_next hbb b2⟩

/-! ### reading trees -/
/-- The first selector of a list: its parts. -/
theorem SelsAt.sel {d : Nat} {P : Nat → Prop} {W : World} {p : Option Addr} {n cap : Nat} {l : List Sel} (h : SelsAt (d + 1) P W (.slice p n cap) l) {j : Nat} {s : Sel} (hs : l[j]? = some s) :
    ∃ g q c, p = some ⟨g, 0, none⟩ ∧ l.length ≤ cap ∧ cap ≤ maxLen ∧ W.cell? ⟨g, j, none⟩ = some (.slice q s.length c) ∧ PtsF (SelsAt d P W) P W (.slice q s.length c) s := by
  obtain ⟨g, c, hp, _, _, h1, h2, _, ⟨x, rfl, hx⟩, hc⟩ := FinRow.get h hs
  obtain ⟨q, c', rfl, _⟩ := FinRow.form hx
  exact ⟨g, q, c', hp, h1, h2, by simpa using hc 0 _ rfl, hx⟩
/-- One part of a selector. -/
theorem PtsF.part {d : Nat} {P : Nat → Prop} {W : World} {p : Option Addr} {n cap : Nat} {l : Sel} (h : PtsF (SelsAt d P W) P W (.slice p n cap) l) {j : Nat} {q : Pt} (hq : l[j]? = some q) :
    ∃ g i k a e, p = some ⟨g, 0, none⟩ ∧ l.length ≤ cap ∧ cap ≤ maxLen ∧ (W.cell? ⟨g, j * 6, none⟩ = some (.int .i64 q.1) ∧ W.cell? ⟨g, j * 6 + 1, none⟩ = some (.string q.2.tag) ∧ W.cell? ⟨g, j * 6 + 2, none⟩ = some i ∧ W.cell? ⟨g, j * 6 + 3, none⟩ = some k ∧ W.cell? ⟨g, j * 6 + 4, none⟩ = some a ∧ W.cell? ⟨g, j * 6 + 5, none⟩ = some e) ∧ StrsF P W i q.2.ids ∧ StrsF P W k q.2.classes ∧ AttrsF P W a q.2.attrs ∧ PssF (SelsAt d P W) P W e q.2.pss := by
  obtain ⟨g, c, hp, _, _, h1, h2, _, ⟨c', rfl, i, k, a, e, rfl, hi, hk, ha, he⟩, hc⟩ := FinRow.get h hq
  exact ⟨g, i, k, a, e, hp, h1, h2, ⟨by simpa using hc 0 _ rfl, hc 1 _ rfl, hc 2 _ rfl, hc 3 _ rfl, hc 4 _ rfl, hc 5 _ rfl⟩, hi, hk, ha, he⟩
theorem BtsAt.own {X : World} {b : Nat} {v : Value} {l : List Bt} (h : X.ownsRow b 58 5 v l.length (btsCells l)) : BtsAt X.heap.size X v l := BtsAt.of_owns h rfl
theorem OpsAt.next {X Y : World} (h : OpsAt X.heap.size X) (hb : Below X.heap.size X Y) : OpsAt Y.heap.size Y := (h.below hb).mono hb.size
/-- What sel.Parse tells of a text's tokens. -/
def ofV (s : ByteArray) : Option (List Sel) := parseV (tksB s.data.toList)

def aliveB : ByteArray := ⟨#[97, 32, 62, 32, 46, 98]⟩
theorem alive_sels : (ofV aliveB).map (fun l => l.map fun s => s.map fun q => (q.1, q.2.classes.length)) = some [[(0, 0), (2, 1)]] := by decide +kernel

set_option maxRecDepth 100000 in
set_option maxHeartbeats 2000000 in
theorem alive_any (w : World) (hS : OpsAt w.heap.size w) : Calls Tryd.prog 4 #[] w fun e w' => e = .returned (.bool true) ∧ Below w.heap.size w w' := by
  have h1 := of_any aliveB w (by decide)
  have hal := alive_sels
  have hG := tksB_good aliveB.data.toList (by decide)
  unfold ofV at hal
  generalize tksB aliveB.data.toList = ts at *
  unfold aliveB at h1
  go_enter Tryd.func4, Tryd.ntmps4
  go_wp2_with fail
  refine h1.mono ?_
  clear h1
  rintro e w1 ⟨v1, rfl, hr1, b1⟩
  have h2 := parse_any v1 ts w1 (BtsAt.own hr1) (hS.next b1) hG
  go_wp2_with fail
  refine h2.mono ?_
  clear h2
  rintro e w2 ⟨hcs, b2⟩
  have hbb := below_next b1 b2
  rcases hcs with ⟨l, x, hl, rfl, hx⟩ | ⟨hl, rfl⟩
  · rw [hl] at hal
    simp only [Option.map_some, Option.some.injEq] at hal
    obtain ⟨s, rfl⟩ : ∃ s, l = [s] := List.length_eq_one_iff.1 (by have := congrArg List.length hal; simpa using this)
    simp only [List.map_cons, List.map_nil, List.cons.injEq, and_true] at hal
    obtain ⟨q1, q2, rfl⟩ : ∃ q1 q2, s = [q1, q2] := by
      have h2 : s.length = 2 := by have := congrArg List.length hal; simpa using this
      match s, h2 with
      | [q1, q2], _ => exact ⟨q1, q2, rfl⟩
    simp only [List.map_cons, List.map_nil, List.cons.injEq, and_true, Prod.mk.injEq] at hal
    obtain ⟨px, cx, rfl⟩ := hx.form
    obtain ⟨g, q, c, rfl, _, _, c0, hp⟩ := SelsAt.sel hx (j := 0) rfl
    obtain ⟨g2, i, k, a, e, rfl, _, _, ⟨_, _, _, _, _, _⟩, _⟩ := PtsF.part hp (j := 0) rfl
    obtain ⟨g3, i2, k2, a2, e2, hg, _, _, ⟨d0, _, _, d3, _, _⟩, _, hk2, _⟩ := PtsF.part hp (j := 1) rfl
    cases hg
    rw [hal.2.1] at d0
    obtain ⟨pk, ck, rfl, _⟩ := FinRow.form hk2
    rw [hal.2.2] at d3
    clear hx hp hk2 hl hal hr1
    simp only [Nat.one_mul, List.length_cons, List.length_nil, Nat.zero_add, Nat.reduceAdd] at *
    go_wp2
    go_ret
    exact ⟨rfl, hbb⟩
  · rw [hl] at hal
    cases hal

end Go.Proofs.YtkhgmobependiaaDoor.Sl
