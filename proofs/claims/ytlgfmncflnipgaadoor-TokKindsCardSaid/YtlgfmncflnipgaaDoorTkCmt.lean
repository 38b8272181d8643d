/- What the law of kinds wants beside: tokens apart, and the law own walk for a comment. -/
import Derived.Test.YtlgfmncflnipgaaDoorBsG
import Derived.Test.YtlgfmncflnipgaaDoorDcTxt
namespace Go.Proofs.YtlgfmncflnipgaaDoor
open Go Go.ChangeShapes Go.WideShapes Go.ChangeAt Go.RowKit

theorem infoTk9 : (Tryd.prog.info? 27).map (fun i => (i.zero, i.size, i.bytes)) = some (some (.agg #[.int .i64 0, .string ⟨#[]⟩, .int .i64 0, .bool false, .int .i64 0]), 5, 48) := by kernel_rfl
theorem txt_short {bs : List UInt8} (hl : bs.length ≤ 2000) : ∀ t ∈ tksOf bs, (txtOf t.text).size ≤ 1000000 := fun t ht => by
  have h1 := toks_text nvOf _ (prep (ipts bs)) (Nat.le_refl _) t ht
  have h2 := encs_len t.text
  have h3 := prep_len bs
  show ((encs t.text).toArray).size ≤ _
  rw [List.size_toArray]
  omega
theorem nv_bounds (t : List Int) : nvOf t ≤ 2147483647 ∧ -2147483647 ≤ nvOf t := by
  unfold nvOf Nm.numN
  split
  · rename_i h
    have h2 : Nm.allDig (Nm.numA (encs t)) = true ∧ Nm.allDig (Nm.numB (encs t)) = true := by
      simp only [Nm.numOk, Nm.isNum, Bool.and_eq_true] at h
      exact h.1
    obtain ⟨g0, g1⟩ := Nm.grown_bounds (Nm.numA (encs t)) 0 (by omega) (by omega) h2.1
    obtain ⟨g2, g3⟩ := Nm.grown_bounds (Nm.thou (Nm.numB (encs t))) _ g0 g1 (Nm.thou_dig h2.2)
    have h4 : Nm.numV (encs t) = Nm.grown (Nm.grown 0 (Nm.numA (encs t))) (Nm.thou (Nm.numB (encs t))) := rfl
    split <;> omega
  · omega
theorem apart_at : ∀ (l : List Tk), apart l → ∀ i x y, l[i]? = some x → l[i + 1]? = some y → ¬ (x.kind = 9 ∧ y.kind = 9)
  | [], _, i, x, y, h, _ => by simp at h
  | [a], _, i, x, y, _, h => by simp at h
  | a :: b :: r, h, 0, x, y, hx, hy => by
    obtain rfl : a = x := by simpa using hx
    obtain rfl : b = y := by simpa using hy
    exact h.1
  | a :: b :: r, h, i + 1, x, y, hx, hy => apart_at (b :: r) h.2 i x y (by simpa using hx) (by simpa using hy)
theorem txt_nil {l : List Int} (h : l = []) : txtOf l = ⟨#[]⟩ := by rw [h]; rfl
theorem txt_ne {l : List Int} (h : l ≠ []) : (txtOf l).toList ≠ [] := by
  rw [ByteArray.toList_eq]
  show encs l ≠ []
  cases l with
  | nil => exact absurd rfl h
  | cons c r =>
    have e : encs (c :: r) = enc1 c ++ encs r := by simp [encs]
    have h1 : enc1 c ≠ [] := enc1_ne c
    rw [e]
    intro h2
    exact h1 (List.append_eq_nil_iff.1 h2).1

set_option maxRecDepth 100000 in
set_option maxHeartbeats 1000000 in
/-- comment: where it says no, no comment begins. -/
theorem comment_any (v : Value) (bs : List UInt8) (w : World) (hB : BytesAt w.heap.size w v bs) (hl : bs.length ≤ 1000000) :
    Calls Tryd.prog 6 #[v] w fun e w' => (e = .returned (.bool true) ∨ (e = .returned (.bool false) ∧ noBytes bs)) ∧ w' = w := by
  obtain ⟨p, cap, rfl⟩ := bytes_list hB
  go_enter Tryd.func6, Tryd.ntmps6
  go_wp2
  go_loopw [3] (fun x wr => ∃ k : Nat, x = .int .i64 k ∧ (k ≤ bs.length) ∧ Hid (∀ j u v, j < k → bs[j]? = some u → bs[j + 1]? = some v → ¬ (u.toNat = 47 ∧ v.toNat = 42)) ∧ w = wr) (fun x _ => bs.length - (intOf x).toNat)
  case atStart => exact ⟨0, rfl, Nat.zero_le _, fun j _ _ hj => absurd hj (Nat.not_lt_zero j), rfl⟩
  case round =>
    obtain ⟨k, rfl, hk, HN, rfl⟩ := hrel
    by_cases hlt : k + 1 < bs.length
    · have hki : (k : Int) + 1 < (bs.length : Int) := by omega
      have hki2 : (k : Int) < (bs.length : Int) := by omega
      obtain ⟨bk, off, hp, hc⟩ : ∃ bk off, p = some ⟨bk, off, none⟩ ∧ ∀ j u, bs[j]? = some u → w.cell? ⟨bk, off + j, none⟩ = some (.int .u8 u.toNat) := by
        rcases hB.cases with ⟨rfl, _⟩ | ⟨bk, off, cap, e, hrest⟩
        · simp at hlt
        · cases e
          first
            | exact ⟨bk, off, rfl, hrest.2.2.2⟩
            | exact ⟨bk, off, rfl, hrest.2.2⟩
            | exact ⟨bk, off, rfl, hrest.2⟩
            | exact ⟨bk, off, rfl, hrest⟩
      subst hp
      have c0 := hc k _ (List.getElem?_eq_getElem (by omega : k < bs.length))
      have c1 := hc (k + 1) _ (List.getElem?_eq_getElem hlt)

      have HN2 : ¬ (bs[k].toNat = 47 ∧ bs[k + 1].toNat = 42) → Hid (∀ j u v, j < k + 1 → bs[j]? = some u → bs[j + 1]? = some v → ¬ (u.toNat = 47 ∧ v.toNat = 42)) := fun h j u v hj h1 h2 => by
        by_cases e : j = k
        · subst e
          rw [List.getElem?_eq_getElem (by omega)] at h1
          rw [List.getElem?_eq_getElem hlt] at h2
          cases h1
          cases h2
          exact h
        · exact HN j u v (by omega) h1 h2
      clear hc HN hB
      generalize bs[k] = a at *
      generalize bs[k + 1] = b at *
      by_cases ha : a.toNat = 47
      · have ha' : ((a.toNat : Int) == 47) = true := by simp; omega
        by_cases hb : b.toNat = 42
        · have hb' : ((b.toNat : Int) == 42) = true := by simp; omega
          clear HN2
          go_wp2
          go_ret
          exact ⟨.inl rfl, rfl⟩
        · have hb' : ((b.toNat : Int) == 42) = false := by simp; omega
          have HN3 := HN2 (fun h => hb h.2)
          clear HN2
          go_wp2
          exact ⟨⟨k + 1, by go_num, by omega, HN3, by first | rfl | trivial⟩, by simp [intOf]; omega⟩
      · have ha' : ((a.toNat : Int) == 47) = false := by simp; omega
        have HN3 := HN2 (fun h => ha h.1)
        clear HN2
        go_wp2
        exact ⟨⟨k + 1, by go_num, by omega, HN3, by first | rfl | trivial⟩, by simp [intOf]; omega⟩
    · have hki : ¬ (k : Int) + 1 < (bs.length : Int) := by omega
      have hno : noBytes bs := fun j u v h1 h2 => (show ∀ j u v, j < k → bs[j]? = some u → bs[j + 1]? = some v → ¬ (u.toNat = 47 ∧ v.toNat = 42) from HN) j u v (by have := (List.getElem?_eq_some_iff.1 h2).1; omega) h1 h2
      clear HN hB
      go_wp2
      go_ret
      first | exact ⟨.inr ⟨rfl, hno⟩, rfl⟩ | exact ⟨.inr rfl, rfl⟩

end Go.Proofs.YtlgfmncflnipgaaDoor
