/- Where the document's own reader of a number stands, digit by digit, and what it comes to. -/
import Derived.Test.YtkhgmobependiaaDoorBsD
namespace Go.Proofs.YtkhgmobependiaaDoor.Nm
open Go Go.RowKit

theorem dig_true {c : UInt8} (h : 48 ≤ c.toNat ∧ c.toNat ≤ 57) : dig c = true := dig_iff.2 h
theorem dig_false {c : UInt8} (h : ¬ (48 ≤ c.toNat ∧ c.toNat ≤ 57)) : dig c = false := by
  cases e : dig c with
  | false => rfl
  | true => exact absurd (dig_iff.1 e) h
theorem digit_any (c : UInt8) (w : World) : Calls Tryd.prog 29 #[.int .i64 c.toNat] w fun e w' => e = .returned (.bool (dig c)) ∧ w' = w := by
  by_cases h1 : 48 ≤ c.toNat
  · have g1 : (48 : Int) ≤ (c.toNat : Int) := by omega
    by_cases h2 : c.toNat ≤ 57
    · have g2 : decide ((c.toNat : Int) ≤ 57) = true := decide_eq_true (by omega)
      rw [dig_true ⟨h1, h2⟩]
      clear h1 h2
      go_enter Tryd.func29, Tryd.ntmps29
      go_wp2
      go_ret
      exact ⟨rfl, rfl⟩
    · have g2 : decide ((c.toNat : Int) ≤ 57) = false := decide_eq_false (by omega)
      rw [dig_false (by omega)]
      clear h1 h2
      go_enter Tryd.func29, Tryd.ntmps29
      go_wp2
      go_ret
      exact ⟨rfl, rfl⟩
  · have g1 : ¬ (48 : Int) ≤ (c.toNat : Int) := by omega
    rw [dig_false (by omega)]
    go_enter Tryd.func29, Tryd.ntmps29
    go_wp2
    go_ret
    exact ⟨rfl, rfl⟩

/-- The thousandths read so far, and what the next digit counts. -/
def frStep (p : Int × Int) (c : UInt8) : Int × Int := (p.1 + p.2 * ((c.toNat : Int) - 48), p.2 / 10)
def frs (l : List UInt8) : Int × Int := l.foldl frStep (0, 100)
theorem frs_next (l : List UInt8) (c : UInt8) : frs (l ++ [c]) = ((frs l).1 + (frs l).2 * ((c.toNat : Int) - 48), (frs l).2 / 10) := by
  unfold frs
  rw [List.foldl_append]
  rfl
theorem fr_still (v : Int) : ∀ l : List UInt8, l.foldl frStep (v, 0) = (v, 0)
  | [] => rfl
  | c :: l => by
    rw [List.foldl_cons, show frStep (v, 0) c = (v, 0) by simp [frStep]]
    exact fr_still v l
theorem frs_four (a b c : UInt8) (l : List UInt8) : frs (a :: b :: c :: l) = (100 * ((a.toNat : Int) - 48) + 10 * ((b.toNat : Int) - 48) + ((c.toNat : Int) - 48), 0) := by
  unfold frs
  rw [List.foldl_cons, List.foldl_cons, List.foldl_cons]
  have e : frStep (frStep (frStep (0, 100) a) b) c = (100 * ((a.toNat : Int) - 48) + 10 * ((b.toNat : Int) - 48) + ((c.toNat : Int) - 48), 0) := by
    unfold frStep
    rw [show ((100 : Int) / 10) = 10 from rfl, show ((10 : Int) / 10) = 1 from rfl, show ((1 : Int) / 10) = 0 from rfl]
    simp only [Prod.mk.injEq, and_true]
    omega
  rw [e, fr_still]
theorem frs_one (a : UInt8) : frs [a] = (100 * ((a.toNat : Int) - 48), 10) := by
  show (0 + 100 * ((a.toNat : Int) - 48), (100 : Int) / 10) = _
  rw [Int.zero_add]
  rfl
theorem frs_two (a b : UInt8) : frs [a, b] = (100 * ((a.toNat : Int) - 48) + 10 * ((b.toNat : Int) - 48), 1) := by
  rw [show [a, b] = [a] ++ [b] from rfl, frs_next, frs_one]
  rfl
theorem allDig_cons {c : UInt8} {l : List UInt8} (h : allDig (c :: l) = true) : (48 ≤ c.toNat ∧ c.toNat ≤ 57) ∧ allDig l = true := by
  have h : dig c = true ∧ allDig l = true := by simpa [allDig] using h
  exact ⟨dig_iff.1 h.1, h.2⟩
theorem frs_bounds : ∀ (l : List UInt8), allDig l = true → 0 ≤ (frs l).1 ∧ (frs l).1 ≤ 999 ∧ ((frs l).2 = 100 ∨ (frs l).2 = 10 ∨ (frs l).2 = 1 ∨ (frs l).2 = 0)
  | [], _ => ⟨by decide, by decide, .inl rfl⟩
  | [a], h => by
    obtain ⟨ha, _⟩ := allDig_cons h
    rw [frs_one]
    exact ⟨by simp only; omega, by simp only; omega, .inr (.inl rfl)⟩
  | [a, b], h => by
    obtain ⟨ha, h⟩ := allDig_cons h
    obtain ⟨hb, _⟩ := allDig_cons h
    rw [frs_two]
    exact ⟨by simp only; omega, by simp only; omega, .inr (.inr (.inl rfl))⟩
  | a :: b :: c :: l, h => by
    obtain ⟨ha, h⟩ := allDig_cons h
    obtain ⟨hb, h⟩ := allDig_cons h
    obtain ⟨hc, _⟩ := allDig_cons h
    rw [frs_four]
    exact ⟨by simp only; omega, by simp only; omega, .inr (.inr (.inr rfl))⟩
theorem grown_frs {n : Int} (h0 : 0 ≤ n) : ∀ (l : List UInt8), allDig l = true → grown n (thou l) = min (1000 * n + (frs l).1) 2147483647
  | [], _ => by
    show grown n [48, 48, 48] = _
    rw [grown_three h0 (by decide) (by decide) (by decide), show ((48 : UInt8).toNat : Int) = 48 from rfl, show (frs []).1 = 0 from rfl]
    omega
  | [a], h => by
    obtain ⟨ha, _⟩ := allDig_cons h
    show grown n [a, 48, 48] = _
    rw [grown_three h0 (dig_true ha) (by decide) (by decide), show ((48 : UInt8).toNat : Int) = 48 from rfl, frs_one]
    simp only
    omega
  | [a, b], h => by
    obtain ⟨ha, h⟩ := allDig_cons h
    obtain ⟨hb, _⟩ := allDig_cons h
    show grown n [a, b, 48] = _
    rw [grown_three h0 (dig_true ha) (dig_true hb) (by decide), show ((48 : UInt8).toNat : Int) = 48 from rfl, frs_two]
    simp only
    omega
  | a :: b :: c :: l, h => by
    obtain ⟨ha, h⟩ := allDig_cons h
    obtain ⟨hb, h⟩ := allDig_cons h
    obtain ⟨hc, _⟩ := allDig_cons h
    have e : thou (a :: b :: c :: l) = [a, b, c] := by
      unfold thou
      rw [Nat.min_eq_right (by simp)]
      rfl
    rw [e, grown_three h0 (dig_true ha) (dig_true hb) (dig_true hc), frs_four]
    simp only
    omega

/-! ### what is no number's text -/
theorem not_dig_mem {c : UInt8} {l : List UInt8} (h : dig c = false) (hm : c ∈ l) : allDig l = false := by
  cases e : allDig l with
  | false => rfl
  | true => rw [List.all_eq_true.1 e c hm] at h; cases h
theorem no_other {l d t : List UInt8} {c : UInt8} (hl : bare l = d ++ c :: t) (hd : allDig d = true) (hc : dig c = false) (hp : c ≠ 46) : numOk l = false := by
  have hm : c ∈ numA l := by
    unfold numA
    rw [hl, List.takeWhile_append_of_pos (fun x hx => by
      obtain ⟨_, _, h3⟩ := dig_not (List.all_eq_true.1 hd x hx)
      rw [bne, h3]; rfl), List.takeWhile_cons, if_pos (by simp [hp])]
    simp
  unfold numOk isNum
  rw [not_dig_mem hc hm]
  rfl
theorem no_behind {l d e t : List UInt8} {c : UInt8} (hl : bare l = d ++ 46 :: (e ++ c :: t)) (hd : allDig d = true) (hc : dig c = false) : numOk l = false := by
  obtain ⟨_, e2⟩ := take_dig d (e ++ c :: t) hd
  have hm : c ∈ numB l := by
    unfold numB
    rw [hl, e2]
    simp
  unfold numOk isNum
  rw [not_dig_mem hc hm, Bool.and_false]
  rfl
theorem no_digit {l : List UInt8} (hl : bare l = []) : numOk l = false := by
  unfold numOk numA numB numP
  rw [hl]
  rfl
theorem no_end {l d : List UInt8} (hl : bare l = d ++ [46]) (hd : allDig d = true) : numOk l = false := by
  obtain ⟨e1, e2⟩ := take_dig d [] hd
  unfold numOk numA numB numP
  rw [hl, e1, e2]
  simp [isNum]
theorem yes_flat {l d : List UInt8} (hl : bare l = d) (hd : allDig d = true) (hne : d ≠ []) : numOk l = true ∧ numN l = capI (if below l then -(grown 0 d * 1000) else grown 0 d * 1000) := by
  obtain ⟨k1, k2⟩ := num_flat hl hd hne
  have hb := grown_bounds d 0 (by decide) (by decide) hd
  have e : grown (grown 0 d) [48, 48, 48] = min (1000 * grown 0 d) 2147483647 := by
    rw [grown_three hb.1 (by decide) (by decide) (by decide), show ((48 : UInt8).toNat : Int) = 48 from rfl]
    omega
  refine ⟨k1, ?_⟩
  unfold numN
  rw [if_pos k1, k2, e]
  unfold capI
  repeat' split
  all_goals omega
theorem yes_dot {l d b : List UInt8} (hl : bare l = d ++ 46 :: b) (hd : allDig d = true) (hb : allDig b = true) (hne : b ≠ []) : numOk l = true ∧ numN l = capI (if below l then -(grown 0 d * 1000 + (frs b).1) else grown 0 d * 1000 + (frs b).1) := by
  obtain ⟨k1, k2⟩ := num_dot hl hd hb hne
  have h0 := grown_bounds d 0 (by decide) (by decide) hd
  have h1 := frs_bounds b hb
  refine ⟨k1, ?_⟩
  unfold numN
  rw [if_pos k1, k2, grown_frs h0.1 b hb]
  unfold capI
  repeat' split
  all_goals omega
theorem at_cons {s : ByteArray} {o : Nat} {d t : List UInt8} {c : UInt8} (h : s.data.toList.drop o = d ++ c :: t) : o + d.length < s.size ∧ s.get! (o + d.length) = c := by
  have e : s.data.toList[o + d.length]? = some c := by
    rw [← List.getElem?_drop, h, List.getElem?_append_right (Nat.le_refl _), Nat.sub_self]
    rfl
  have hlt : o + d.length < s.size := by
    rw [← len_list]
    exact (List.getElem?_eq_some_iff.1 e).1
  exact ⟨hlt, Option.some.inj ((at_list s _ hlt).symm.trans e)⟩
theorem at_end {s : ByteArray} {o : Nat} {d : List UInt8} (ho : o ≤ s.size) (h : s.data.toList.drop o = d) : o + d.length = s.size := by
  have := congrArg List.length h
  rw [List.length_drop, len_list] at this
  omega
theorem grow1_if {x : Int} {c : UInt8} (h0 : 0 ≤ x) (hc : 48 ≤ c.toNat) : grow1 x c = if 2147483647 < x * 10 + c.toNat - 48 then 2147483647 else x * 10 + c.toNat - 48 := by
  unfold grow1 capI
  repeat' split
  all_goals omega
theorem allDig_next {d : List UInt8} {c : UInt8} (h : allDig d = true) (hc : dig c = true) : allDig (d ++ [c]) = true := by
  rw [allDig_append, h]
  simp [allDig, hc]
theorem grown_snoc (d : List UInt8) (c : UInt8) : grown 0 (d ++ [c]) = grow1 (grown 0 d) c := by rw [grown_append]; rfl

/-! ### where the reader stands -/
/-- Ahead of the point: h digits are read from place o on, t is left. -/
def St1 (s : ByteArray) (o k : Nat) (x : Int) (h : Nat) (t : List UInt8) : Prop := ∃ d, d.length = h ∧ k = o + h ∧ s.data.toList.drop o = d ++ t ∧ allDig d = true ∧ x = grown 0 d
/-- Behind the point: b digits are read, t is left. -/
def St2 (s : ByteArray) (o k : Nat) (y u : Int) (b : Nat) (t : List UInt8) : Prop := ∃ d e, e.length = b ∧ k = o + d.length + 1 + b ∧ s.data.toList.drop o = d ++ 46 :: (e ++ t) ∧ allDig d = true ∧ allDig e = true ∧ y = grown 0 d * 1000 + (frs e).1 ∧ u = (frs e).2

theorem St1.start (s : ByteArray) (o : Nat) : St1 s o o 0 0 (s.data.toList.drop o) := ⟨[], rfl, rfl, rfl, rfl, rfl⟩
theorem St1.bounds {s : ByteArray} {o k h : Nat} {x : Int} {t : List UInt8} (S : St1 s o k x h t) : 0 ≤ x ∧ x ≤ 2147483647 := by
  obtain ⟨d, _, _, _, hd, rfl⟩ := S
  exact grown_bounds d 0 (by decide) (by decide) hd
theorem St1.le {s : ByteArray} {o k h : Nat} {x : Int} {t : List UInt8} (S : St1 s o k x h t) : h ≤ k := by
  obtain ⟨d, _, rfl, _⟩ := S
  omega
theorem St2.le {s : ByteArray} {o k b : Nat} {y u : Int} {t : List UInt8} (S : St2 s o k y u b t) : b ≤ k := by
  obtain ⟨d, e, _, rfl, _⟩ := S
  omega
theorem St1.cons {s : ByteArray} {o k h : Nat} {x : Int} {c : UInt8} {t : List UInt8} (S : St1 s o k x h (c :: t)) : k < s.size ∧ s.get! k = c := by
  obtain ⟨d, rfl, rfl, hdt, _, _⟩ := S
  exact at_cons hdt
theorem St1.nil {s : ByteArray} {o k h : Nat} {x : Int} (S : St1 s o k x h []) (ho : o ≤ s.size) : k = s.size := by
  obtain ⟨d, rfl, rfl, hdt, _, _⟩ := S
  exact at_end ho (by rw [hdt, List.append_nil])
theorem St1.next {s : ByteArray} {o k h : Nat} {x : Int} {c : UInt8} {t : List UInt8} (S : St1 s o k x h (c :: t)) (hc : dig c = true) : St1 s o (k + 1) (grow1 x c) (h + 1) t := by
  obtain ⟨d, rfl, rfl, hdt, hd, rfl⟩ := S
  exact ⟨d ++ [c], by simp, by omega, by rw [hdt, List.append_assoc]; rfl, allDig_next hd hc, (grown_snoc d c).symm⟩
theorem St1.none {s : ByteArray} {o k : Nat} {x : Int} (S : St1 s o k x 0 []) (hb : bare s.data.toList = s.data.toList.drop o) : numOk s.data.toList = false := by
  obtain ⟨d, h0, _, hdt, _, _⟩ := S
  have : d = [] := List.length_eq_zero_iff.1 h0
  subst this
  exact no_digit (hb.trans hdt)
theorem St1.some {s : ByteArray} {o k h : Nat} {x : Int} (S : St1 s o k x h []) (hb : bare s.data.toList = s.data.toList.drop o) (hne : h ≠ 0) :
    numOk s.data.toList = true ∧ numN s.data.toList = capI (if below s.data.toList then -(x * 1000) else x * 1000) := by
  obtain ⟨d, rfl, _, hdt, hd, rfl⟩ := S
  rw [List.append_nil] at hdt
  exact yes_flat (hb.trans hdt) hd (fun e => hne (by rw [e]; rfl))
theorem St1.other {s : ByteArray} {o k h : Nat} {x : Int} {c : UInt8} {t : List UInt8} (S : St1 s o k x h (c :: t)) (hb : bare s.data.toList = s.data.toList.drop o) (hc : dig c = false) (hp : c ≠ 46) : numOk s.data.toList = false := by
  obtain ⟨d, _, _, hdt, hd, _⟩ := S
  exact no_other (hb.trans hdt) hd hc hp
theorem St2.start {s : ByteArray} {o k h : Nat} {x : Int} {t : List UInt8} (S : St1 s o k x h (46 :: t)) : St2 s o (k + 1) (x * 1000) 100 0 t := by
  obtain ⟨d, rfl, rfl, hdt, hd, rfl⟩ := S
  exact ⟨d, [], rfl, rfl, hdt, hd, rfl, by rw [show (frs []).1 = 0 from rfl, Int.add_zero], rfl⟩
theorem St2.bounds {s : ByteArray} {o k b : Nat} {y u : Int} {t : List UInt8} (S : St2 s o k y u b t) : 0 ≤ y ∧ y ≤ 2147483647999 ∧ 0 ≤ u ∧ u ≤ 100 := by
  obtain ⟨d, e, _, _, _, hd, he, rfl, rfl⟩ := S
  have h1 := grown_bounds d 0 (by decide) (by decide) hd
  have h2 := frs_bounds e he
  omega
theorem St2.mul {s : ByteArray} {o k b : Nat} {y u : Int} {t : List UInt8} (S : St2 s o k y u b t) {c : UInt8} (hc : dig c = true) : 0 ≤ u * ((c.toNat : Int) - 48) ∧ u * ((c.toNat : Int) - 48) ≤ 900 := by
  obtain ⟨d, e, _, _, _, _, he, _, rfl⟩ := S
  have hc := dig_iff.1 hc
  obtain ⟨_, _, h | h | h | h⟩ := frs_bounds e he <;> rw [h] <;> omega
theorem St2.cons {s : ByteArray} {o k b : Nat} {y u : Int} {c : UInt8} {t : List UInt8} (S : St2 s o k y u b (c :: t)) : k < s.size ∧ s.get! k = c := by
  obtain ⟨d, e, rfl, rfl, hdt, _⟩ := S
  have h : s.data.toList.drop o = (d ++ 46 :: e) ++ c :: t := by rw [hdt, List.append_assoc]; rfl
  have := at_cons h
  rw [List.length_append, List.length_cons, show o + (d.length + (e.length + 1)) = o + d.length + 1 + e.length by omega] at this
  exact this
theorem St2.nil {s : ByteArray} {o k b : Nat} {y u : Int} (S : St2 s o k y u b []) (ho : o ≤ s.size) : k = s.size := by
  obtain ⟨d, e, rfl, rfl, hdt, _⟩ := S
  have := at_end ho hdt
  rw [List.append_nil, List.length_append, List.length_cons] at this
  omega
theorem St2.next {s : ByteArray} {o k b : Nat} {y u : Int} {c : UInt8} {t : List UInt8} (S : St2 s o k y u b (c :: t)) (hc : dig c = true) : St2 s o (k + 1) (y + u * ((c.toNat : Int) - 48)) (u / 10) (b + 1) t := by
  obtain ⟨d, e, rfl, rfl, hdt, hd, he, rfl, rfl⟩ := S
  refine ⟨d, e ++ [c], by simp, by omega, by rw [hdt, List.append_assoc]; rfl, hd, allDig_next he hc, ?_, ?_⟩
  · rw [frs_next]
    simp only
    omega
  · rw [frs_next]
theorem St2.none {s : ByteArray} {o k : Nat} {y u : Int} (S : St2 s o k y u 0 []) (hb : bare s.data.toList = s.data.toList.drop o) : numOk s.data.toList = false := by
  obtain ⟨d, e, h0, _, hdt, hd, _⟩ := S
  have : e = [] := List.length_eq_zero_iff.1 h0
  subst this
  exact no_end (hb.trans hdt) hd
theorem St2.some {s : ByteArray} {o k b : Nat} {y u : Int} (S : St2 s o k y u b []) (hb : bare s.data.toList = s.data.toList.drop o) (hne : b ≠ 0) :
    numOk s.data.toList = true ∧ numN s.data.toList = capI (if below s.data.toList then -y else y) := by
  obtain ⟨d, e, rfl, _, hdt, hd, he, rfl, _⟩ := S
  rw [List.append_nil] at hdt
  exact yes_dot (hb.trans hdt) hd he (fun e => hne (by rw [e]; rfl))
theorem St2.other {s : ByteArray} {o k b : Nat} {y u : Int} {c : UInt8} {t : List UInt8} (S : St2 s o k y u b (c :: t)) (hb : bare s.data.toList = s.data.toList.drop o) (hc : dig c = false) : numOk s.data.toList = false := by
  obtain ⟨d, e, _, _, hdt, hd, _⟩ := S
  exact no_behind (hb.trans hdt) hd hc

end Go.Proofs.YtkhgmobependiaaDoor.Nm
