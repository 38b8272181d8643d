/- For every slice of strings and every slice of bools: the law tapestrierlaw2.AtomPlays returns true and leaves its arguments as they were; no condition. -/
import Derived.Test.YtbgcnmebmbjdjaaAtRef
namespace Go.Proofs.Ytbgcnmebmbjdjaa
open Go Go.ChangeShapes Go.WideShapes Go.ChangeAt Go.RowKit

set_option maxRecDepth 100000 in
theorem count_same (w : World) (tb : Nat) (F : List Nat) (xs : List ByteArray) (hT : Tab w tb F xs) :
    Calls Try.prog 14 #[.pointer (some ⟨tb, 0, none⟩)] w fun e w' => e = .returned (.int .i64 xs.length) ∧ w' = w := by
  obtain ⟨p, cap, c0, _, _⟩ := hT.list
  clear hT
  go_enter Try.func14, Try.ntmps14
  go_wp2
  go_ret
  exact ⟨rfl, rfl⟩

set_option maxRecDepth 100000 in
theorem Len_same (w : World) (tb : Nat) (F : List Nat) (xs : List ByteArray) (hT : Tab w tb F xs) :
    Calls Try.prog 12 #[.pointer (some ⟨tb, 0, none⟩)] w fun e w' => e = .returned (.int .i64 xs.length) ∧ w' = w := by
  have hc := count_same w tb F xs hT
  clear hT
  go_enter Try.func12, Try.ntmps12
  go_wp2_with fail
  refine hc.mono ?_
  rintro e w' ⟨rfl, rfl⟩
  clear hc
  go_wp2
  go_ret
  exact ⟨rfl, rfl⟩

/-- Three tables, apart from each other and from all that was there when the law began: the project's (names xs), another one (names ys), the document's own (names xr). -/
def All (w0 w : World) (tb ob rb : Nat) (xs xr ys : List ByteArray) : Prop :=
  ∃ Ft Fo Fr, Tab w tb Ft xs ∧ Tab w ob Fo ys ∧ RTab w rb Fr xr ∧ (∀ b ∈ Ft, b ∉ Fo ∧ b ∉ Fr) ∧ (∀ b ∈ Fo, b ∉ Fr) ∧ (∀ b, b ∈ Ft ∨ b ∈ Fo ∨ b ∈ Fr → w0.heap.size ≤ b) ∧ Below w0.heap.size w0 w

theorem All.below {w0 w w' : World} {tb ob rb : Nat} {xs xr ys : List ByteArray} (h : All w0 w tb ob rb xs xr ys) (hb : Below w.heap.size w w') : All w0 w' tb ob rb xs xr ys := by
  obtain ⟨Ft, Fo, Fr, t, o, r, h1, h2, h3, h4⟩ := h
  exact ⟨Ft, Fo, Fr, t.below hb, o.below hb, r.below hb, h1, h2, h3, h4.trans (hb.mono h4.size)⟩
theorem All.base {w0 w : World} {tb ob rb : Nat} {xs xr ys : List ByteArray} (h : All w0 w tb ob rb xs xr ys) : Below w0.heap.size w0 w := by
  obtain ⟨Ft, Fo, Fr, t, o, r, h1, h2, h3, h4⟩ := h
  exact h4
theorem All.tab {w0 w : World} {tb ob rb : Nat} {xs xr ys : List ByteArray} (h : All w0 w tb ob rb xs xr ys) : ∃ F, Tab w tb F xs := by
  obtain ⟨Ft, Fo, Fr, t, o, r, h1, h2, h3, h4⟩ := h
  exact ⟨_, t⟩
theorem All.ref {w0 w : World} {tb ob rb : Nat} {xs xr ys : List ByteArray} (h : All w0 w tb ob rb xs xr ys) : ∃ F, RTab w rb F xr := by
  obtain ⟨Ft, Fo, Fr, t, o, r, h1, h2, h3, h4⟩ := h
  exact ⟨_, r⟩

theorem All.ofT {w0 w : World} {tb ob rb : Nat} {xs xr ys : List ByteArray} (h : All w0 w tb ob rb xs xr ys) (s : ByteArray) (hs : s ∉ xs) (hz : s.size ≤ 281474976710656) (hl : xs.length < 65536) :
    Calls Try.prog 7 #[.pointer (some ⟨tb, 0, none⟩), .string s] w fun e w' => e = .returned (.tuple #[.int .i64 xs.length, .bool true]) ∧ All w0 w' tb ob rb (xs ++ [s]) xr ys := by
  obtain ⟨Ft, Fo, Fr, t, o, r, h1, h2, h3, h4⟩ := h
  refine (Of_no w tb Ft xs s t hs hz hl).mono fun e w' ⟨he, F', t', hF, k⟩ => ⟨he, F', Fo, Fr, t', o.kept k (fun b hb hm => (h1 b hm).1 hb), r.kept k (fun b hb hm => (h1 b hm).2 hb), fun b hb => ?_, h2, fun b hb => ?_, h4.trans (k.below h4.size (fun b hb hm => by have := h3 b (.inl hm); omega))⟩
  · rcases hF b hb with e | e
    · exact h1 b e
    · exact ⟨fun hm => by have := o.lt b hm; omega, fun hm => by have := r.lt b hm; omega⟩
  · rcases hb with hb | hb
    · rcases hF b hb with e | e
      · exact h3 b (.inl e)
      · exact Nat.le_trans h4.size e
    · exact h3 b (.inr hb)

theorem All.ofO {w0 w : World} {tb ob rb : Nat} {xs xr ys : List ByteArray} (h : All w0 w tb ob rb xs xr ys) (s : ByteArray) (hy : ys = [] ∨ ys = [s]) (hz : s.size ≤ 281474976710656) :
    Calls Try.prog 7 #[.pointer (some ⟨ob, 0, none⟩), .string s] w fun e w' => e = .returned (.tuple #[.int .i64 0, .bool true]) ∧ All w0 w' tb ob rb xs xr [s] := by
  rcases hy with rfl | rfl
  · obtain ⟨Ft, Fo, Fr, t, o, r, h1, h2, h3, h4⟩ := h
    refine (Of_no w ob Fo [] s o (by simp) hz (by decide)).mono fun e w' ⟨he, F', o', hF, k⟩ => ⟨he, Ft, F', Fr, t.kept k (fun b hb hm => (h1 b hb).1 hm), o', r.kept k (fun b hb hm => h2 b hm hb), fun b hb => ⟨fun hm => ?_, (h1 b hb).2⟩, fun b hb => ?_, fun b hb => ?_, h4.trans (k.below h4.size (fun b hb hm => by have := h3 b (.inr (.inl hm)); omega))⟩
    · rcases hF b hm with e | e
      · exact (h1 b hb).1 e
      · have := t.lt b hb
        omega
    · rcases hF b hb with e | e
      · exact h2 b e
      · exact fun hm => by have := r.lt b hm; omega
    · rcases hb with hb | hb | hb
      · exact h3 b (.inl hb)
      · rcases hF b hb with e | e
        · exact h3 b (.inr (.inl e))
        · exact Nat.le_trans h4.size e
      · exact h3 b (.inr (.inr hb))
  · have h' := h
    obtain ⟨Ft, Fo, Fr, t, o, r, _⟩ := h'
    refine (Of_yes w ob Fo [s] s o (by simp) (by simp)).mono fun e w' ⟨he, hb⟩ => ⟨?_, h.below hb⟩
    haveI := lawBA
    simpa using he

theorem All.ofR {w0 w : World} {tb ob rb : Nat} {xs xr ys : List ByteArray} (h : All w0 w tb ob rb xs xr ys) (s : ByteArray) (hs : s ∉ xr) (hl : xr.length < 65536) :
    Calls Try.prog 10 #[.pointer (some ⟨rb, 0, none⟩), .string s] w fun e w' => e = .returned (.tuple #[.int .i64 xr.length, .bool true]) ∧ All w0 w' tb ob rb xs (xr ++ [s]) ys := by
  obtain ⟨Ft, Fo, Fr, t, o, r, h1, h2, h3, h4⟩ := h
  refine (rOf_no w rb Fr xr s r hs hl).mono fun e w' ⟨he, F', r', hF, k⟩ => ⟨he, Ft, Fo, F', t.kept k (fun b hb hm => (h1 b hb).2 hm), o.kept k (fun b hb hm => h2 b hb hm), r', fun b hb => ⟨(h1 b hb).1, fun hm => ?_⟩, fun b hb hm => ?_, fun b hb => ?_, h4.trans (k.below h4.size (fun b hb hm => by have := h3 b (.inr (.inr hm)); omega))⟩
  · rcases hF b hm with e | e
    · exact (h1 b hb).2 e
    · have := t.lt b hb
      omega
  · rcases hF b hm with e | e
    · exact h2 b hb e
    · have := o.lt b hb
      omega
  · rcases hb with hb | hb | hb
    · exact h3 b (.inl hb)
    · exact h3 b (.inr (.inl hb))
    · rcases hF b hb with e | e
      · exact h3 b (.inr (.inr e))
      · exact Nat.le_trans h4.size e

theorem All.new {w0 w1 : World} (b1 : Below w0.heap.size w0 w1) :
    All w0 (((w1.alloc (.cells #[.slice none 0 0, .map none] 29)).alloc (.cells #[.slice none 0 0, .map none] 29)).alloc (.cells #[.slice none 0 0] 32)) w1.heap.size (w1.heap.size + 1) (w1.heap.size + 1 + 1) [] [] [] := by
  have hs := b1.size
  have z1 : (w1.alloc (.cells #[.slice none 0 0, .map none] 29)).heap.size = w1.heap.size + 1 := by simp
  have z2 : ((w1.alloc (.cells #[.slice none 0 0, .map none] 29)).alloc (.cells #[.slice none 0 0, .map none] 29)).heap.size = w1.heap.size + 1 + 1 := by simp
  have t := Tab.new w1
  have o := Tab.new (w1.alloc (.cells #[.slice none 0 0, .map none] 29))
  have r := RTab.new ((w1.alloc (.cells #[.slice none 0 0, .map none] 29)).alloc (.cells #[.slice none 0 0, .map none] 29))
  rw [z1] at o
  rw [z2] at r
  have k1 : ∀ (w : World) (ob : Obj), Kept (fun _ => True) w (w.alloc ob) := fun w ob => Kept.alloc w ob
  refine ⟨_, _, _, (t.kept (k1 _ _) (fun _ _ => trivial)).kept (k1 _ _) (fun _ _ => trivial), o.kept (k1 _ _) (fun _ _ => trivial), r, fun b hb => ?_, fun b hb => ?_, fun b hb => ?_, ((b1.alloc hs _).alloc (by simp; omega) _).alloc (by simp; omega) _⟩
  · simp at hb ⊢; omega
  · simp at hb ⊢; omega
  · simp at hb; omega

set_option maxRecDepth 100000 in
set_option maxHeartbeats 4000000 in
theorem atomPlays_walk (w : World) (v : Value) (l : List ByteArray) (hL : StrsAt w.heap.size w v l) (hS : ∀ s ∈ l, s.size ≤ 281474976710656) (v' : Value) (f : List Bool) (hF : BoolsAt w.heap.size w v' f) :
    Calls Try.prog 3 #[v, v'] w fun e w' => e = .returned (.bool true) ∧ Below w.heap.size w w' := by
  obtain ⟨p, cap, rfl⟩ := hL.len
  obtain ⟨p', cap', rfl⟩ := hF.len
  have h0 := alive_any w
  by_cases hl : l.length ≤ 100
  · have hi : decide ((100 : Int) < (l.length : Int)) = false := by simp; omega
    by_cases hf : l.length ≤ f.length
    · have hj : decide ((f.length : Int) < (l.length : Int)) = false := by simp; omega
      have hj' : decide (f.length < l.length) = false := by simp; omega
      go_enter Try.func3, Try.ntmps3
      go_wp2_with fail
      refine h0.mono ?_
      rintro e w1 ⟨rfl, b1⟩
      clear h0
      have a0 := All.new b1
      have hlt := b1.size
      go_wp2
      generalize w1.heap.size = tb at *
      generalize tb + 1 + 1 = rb at *
      generalize tb + 1 = ob at *
      go_loopw [9] (fun i wr => ∃ (k : Nat) (xs ys : List ByteArray), i = .int .i64 k ∧ k ≤ l.length ∧ All w wr tb ob rb xs xs ys ∧ xs.length ≤ k ∧ (ys = [] ∨ ys = [⟨#[111, 116, 104, 101, 114]⟩])) (fun i _ => l.length - (intOf i).toNat)
      case atStart => exact ⟨0, [], [], rfl, Nat.zero_le _, a0, Nat.le_refl _, .inl rfl⟩
      case round =>
        obtain ⟨k, xs, ys, rfl, hk, ar, hx, hy⟩ := hrel
        clear a0
        by_cases hlt' : k < l.length
        · have hki : (k : Int) < (l.length : Int) := by omega
          have hkf : (k : Int) < (f.length : Int) := by omega
          have hc1 := ar.ofO _ hy (by decide)
          go_wp2_with fail
          refine hc1.mono ?_
          rintro e w2 ⟨rfl, a2⟩
          clear hc1 ar hy
          obtain ⟨bk, off, u, rfl, _, hu, hcw, hbk⟩ := hL.get hlt'
          have hc := (a2.base.cell (p := ⟨bk, off + k, none⟩) hbk).trans hcw
          obtain ⟨bk', off', q, rfl, _, hc', _⟩ := (hF.below a2.base).get (by omega : k < f.length)
          have huz := hS u hu
          obtain ⟨Ft, t2⟩ := a2.tab
          obtain ⟨Fr, r2⟩ := a2.ref
          cases q
          · by_cases hm : u ∈ xs
            · have hc1 := Of_yes w2 tb Ft xs u t2 hm (by omega)
              go_wp2_with fail
              refine hc1.mono ?_
              rintro e w3 ⟨rfl, b3⟩
              clear hc1
              have a3 := a2.below b3
              have hc3 := (a3.base.cell (p := ⟨bk, off + k, none⟩) hbk).trans hcw
              have hc1 := rOf_yes w3 rb Fr xs u (r2.below b3) hm (by omega)
              go_wp2_with fail
              refine hc1.mono ?_
              rintro e w4 ⟨rfl, rfl⟩
              clear hc1
              have hc1 := Name_yes w4 tb Ft xs (xs.idxOf u) u (t2.below b3) (get_idx hm) (by omega)
              go_wp2_with fail
              refine hc1.mono ?_
              rintro e w5 ⟨rfl, b5⟩
              clear hc1
              have a5 := a3.below b5
              have hc5 := (a5.base.cell (p := ⟨bk, off + k, none⟩) hbk).trans hcw
              clear a2 a3 hc hc3 hc' b3 b5 t2 r2 hcw hL hF
              generalize xs.idxOf u = m at *
              go_wp2
              obtain ⟨Fz, tz⟩ := a5.tab
              obtain ⟨Gz, rz⟩ := a5.ref
              obtain ⟨pz, cz, c0z, _⟩ := rz.list
              have hlz := fun n => Len_same (w5.drewN n) tb Fz _ (tz.below ⟨rfl, rfl, rfl, Nat.le_refl _, fun _ _ => rfl⟩)
              go_quiet ((go_at_call 12; exact Calls.quiet_of_same (hlz _)))
              have a6 := a5.below (w' := w5.drewN nq) ⟨rfl, rfl, rfl, Nat.le_refl _, fun _ _ => rfl⟩
              clear hlz c0z rz tz a5
              generalize w5.drewN nq = w6 at *
              go_wp2
              exact ⟨⟨k + 1, xs, _, by go_num, by omega, a6, by omega, .inr rfl⟩, by simp [intOf]; omega⟩
            · have hc1 := a2.ofT u hm huz (by omega)
              go_wp2_with fail
              refine hc1.mono ?_
              rintro e w3 ⟨rfl, a3⟩
              clear hc1
              have hc3 := (a3.base.cell (p := ⟨bk, off + k, none⟩) hbk).trans hcw
              have hc1 := a3.ofR u hm (by omega)
              go_wp2_with fail
              refine hc1.mono ?_
              rintro e w4 ⟨rfl, a4⟩
              clear hc1
              obtain ⟨F4, t4⟩ := a4.tab
              have hc1 := Name_yes w4 tb F4 (xs ++ [u]) xs.length u t4 (by simp) (by simp; omega)
              go_wp2_with fail
              refine hc1.mono ?_
              rintro e w5 ⟨rfl, b5⟩
              clear hc1
              have a5 := a4.below b5
              have hc5 := (a5.base.cell (p := ⟨bk, off + k, none⟩) hbk).trans hcw
              have hzl : (xs ++ [u]).length ≤ k + 1 := by simp; omega
              clear a2 a3 a4 hc hc3 hc' b5 t2 r2 t4 hcw hL hF
              generalize xs ++ [u] = zs at *
              go_wp2
              obtain ⟨Fz, tz⟩ := a5.tab
              obtain ⟨Gz, rz⟩ := a5.ref
              obtain ⟨pz, cz, c0z, _⟩ := rz.list
              have hlz := fun n => Len_same (w5.drewN n) tb Fz _ (tz.below ⟨rfl, rfl, rfl, Nat.le_refl _, fun _ _ => rfl⟩)
              go_quiet ((go_at_call 12; exact Calls.quiet_of_same (hlz _)))
              have a6 := a5.below (w' := w5.drewN nq) ⟨rfl, rfl, rfl, Nat.le_refl _, fun _ _ => rfl⟩
              clear hlz c0z rz tz a5
              generalize w5.drewN nq = w6 at *
              go_wp2
              exact ⟨⟨k + 1, zs, _, by go_num, by omega, a6, by omega, .inr rfl⟩, by simp [intOf]; omega⟩
          · by_cases hm : u ∈ xs
            · have hc1 := Find_yes w2 tb Ft xs u t2 hm (by omega)
              go_wp2_with fail
              refine hc1.mono ?_
              rintro e w3 ⟨rfl, b3⟩
              clear hc1
              have a3 := a2.below b3
              have hc3 := (a3.base.cell (p := ⟨bk, off + k, none⟩) hbk).trans hcw
              have hc1 := rFind_yes w3 rb Fr xs u (r2.below b3) hm (by omega)
              go_wp2_with fail
              refine hc1.mono ?_
              rintro e w5 ⟨rfl, rfl⟩
              clear hc1
              have a5 := a3
              clear a2 a3 hc hc3 hc' b3 t2 r2 hcw hL hF
              generalize xs.idxOf u = m at *
              go_wp2
              obtain ⟨Fz, tz⟩ := a5.tab
              obtain ⟨Gz, rz⟩ := a5.ref
              obtain ⟨pz, cz, c0z, _⟩ := rz.list
              have hlz := fun n => Len_same (w5.drewN n) tb Fz _ (tz.below ⟨rfl, rfl, rfl, Nat.le_refl _, fun _ _ => rfl⟩)
              go_quiet ((go_at_call 12; exact Calls.quiet_of_same (hlz _)))
              have a6 := a5.below (w' := w5.drewN nq) ⟨rfl, rfl, rfl, Nat.le_refl _, fun _ _ => rfl⟩
              clear hlz c0z rz tz a5
              generalize w5.drewN nq = w6 at *
              go_wp2
              exact ⟨⟨k + 1, xs, _, by go_num, by omega, a6, by omega, .inr rfl⟩, by simp [intOf]; omega⟩
            · have hc1 := Find_no w2 tb Ft xs u t2 hm huz (by omega)
              go_wp2_with fail
              refine hc1.mono ?_
              rintro e w3 ⟨rfl, b3⟩
              clear hc1
              have a3 := a2.below b3
              have hc3 := (a3.base.cell (p := ⟨bk, off + k, none⟩) hbk).trans hcw
              have hc1 := rFind_no w3 rb Fr xs u (r2.below b3) hm (by omega)
              go_wp2_with fail
              refine hc1.mono ?_
              rintro e w5 ⟨rfl, rfl⟩
              clear hc1
              have a5 := a3
              clear a2 a3 hc hc3 hc' b3 t2 r2 hcw hL hF
              go_wp2
              obtain ⟨Fz, tz⟩ := a5.tab
              obtain ⟨Gz, rz⟩ := a5.ref
              obtain ⟨pz, cz, c0z, _⟩ := rz.list
              have hlz := fun n => Len_same (w5.drewN n) tb Fz _ (tz.below ⟨rfl, rfl, rfl, Nat.le_refl _, fun _ _ => rfl⟩)
              go_quiet ((go_at_call 12; exact Calls.quiet_of_same (hlz _)))
              have a6 := a5.below (w' := w5.drewN nq) ⟨rfl, rfl, rfl, Nat.le_refl _, fun _ _ => rfl⟩
              clear hlz c0z rz tz a5
              generalize w5.drewN nq = w6 at *
              go_wp2
              exact ⟨⟨k + 1, xs, _, by go_num, by omega, a6, by omega, .inr rfl⟩, by simp [intOf]; omega⟩
        · have hki : ¬ (k : Int) < (l.length : Int) := by omega
          obtain ⟨Ft, t2⟩ := ar.tab
          have b0 := ar.base
          have hc1 := Name_no wr tb Ft xs (-1) t2 (.inl (by decide))
          clear ar hL hF
          go_wp2_with fail
          refine hc1.mono ?_
          rintro e w3 ⟨rfl, b3⟩
          clear hc1
          have hc1 := Len_same w3 tb Ft xs (t2.below b3)
          go_wp2_with fail
          refine hc1.mono ?_
          rintro e w4 ⟨rfl, rfl⟩
          clear hc1
          have hc1 := Name_no w4 tb Ft xs xs.length (t2.below b3) (.inr (Int.le_refl _))
          go_wp2_with fail
          refine hc1.mono ?_
          rintro e w5 ⟨rfl, b5⟩
          clear hc1
          have b6 := b0.trans ((b3.trans (b5.mono b3.size)).mono b0.size)
          clear t2 b3 b5
          go_wp2
          go_ret
          exact ⟨rfl, b6⟩
    · have hj : (f.length : Int) < l.length := by omega
      go_enter Try.func3, Try.ntmps3
      go_wp2_with fail
      refine h0.mono ?_
      rintro e w1 ⟨rfl, b1⟩
      go_wp2
      go_ret
      exact ⟨rfl, b1⟩
  · have hi : (100 : Int) < l.length := by omega
    go_enter Try.func3, Try.ntmps3
    go_wp2_with fail
    refine h0.mono ?_
    rintro e w1 ⟨rfl, b1⟩
    go_wp2
    go_ret
    exact ⟨rfl, b1⟩


set_option maxRecDepth 100000 in
theorem atomPlays_lifted (os : Os) (started : os.Started) (H : Type) (enc : TypeId × Value → H) :
    ReturnsInHanded {} Try.checked os 3 .any (Rows.atomPlaysSpec.pre6 enc Try.prog Try.f3 Rows.atomPlaysRow.domain false) (Rows.atomPlaysSpec.post enc Try.prog Try.f3 false true false false) := by
  refine returnsInHanded_of_change_sized (C := Try.checked) ownNone started (by kernel_rfl) Try.func3
    (ChangeSpec.witness6 (enc := enc) (C := Try.checked) false ⟨#[], #[.slice none 0 0, .slice none 0 0], []⟩ 8 (by kernel_rfl) (by kernel_rfl) (by kernel_rfl) (by kernel_rfl)) ?_
  intro W base args ds gs before hval hW _ hsz0 _
  have hW' := hW
  obtain ⟨p, q, hA0, hV, rfl, hfz, hnd⟩ := hW
  have hA : DataW.TrodAll enc Try.prog W 0 (fun _ => true) true Try.f3.params.toList args.toList ds p := hA0
  rw [Try.params3] at hA hval hsz0
  obtain ⟨v0, vs0, d0, ds0, p0, q0, hargs, rfl, rfl, h0, r0⟩ := trodAll_cons hA
  obtain ⟨v1, vs1, d1, ds1, p1, q1, rfl, rfl, rfl, h1, r1⟩ := trodAll_cons r0
  obtain ⟨rfl, rfl, rfl⟩ := trodAll_nil r1
  obtain rfl : args = #[v0, v1] := by cases args; simp_all
  obtain ⟨rfl, rfl⟩ := trodVars_none hV
  have hsz := List.all_eq_true.1 hsz0
  obtain ⟨a0, len0, cap0, rfl⟩ := okWide_slice Try.underlying22 (hval 0 22 v0 rfl rfl)
  have k0 := h0
  have lt0 : ∀ x ∈ p0, x.block < W.heap.size := by obtain ⟨m, hm⟩ := k0; exact DataW.trod_lt m _ _ _ hm
  obtain ⟨z0, w0, y0⟩ := strsAt_of_reads k0 (fun n hn => by simpa using hsz n (DataW.weights_mem_each (j := 0) rfl rfl n hn))
  obtain ⟨a1, len1, cap1, rfl⟩ := okWide_slice Try.underlying23 (hval 1 23 v1 rfl rfl)
  have k1 := h1
  have lt1 : ∀ x ∈ p1, x.block < W.heap.size := by obtain ⟨m, hm⟩ := k1; exact DataW.trod_lt m _ _ _ hm
  obtain ⟨z1, w1⟩ := boolsAt_of_reads k1
  clear hA0
  refine (atomPlays_walk W _ z0 w0 y0 _ z1 w1).mono fun e W' ⟨he, bel⟩ => ?_
  subst he
  exact ⟨_, rfl, _, _, _, [], _, [], hW', trodAll_mk1 (shut_bool Try.underlying4 _), (trodAll_cons_mk (Below.trod laidOut (by kernel_rfl) (of_decide_eq_true (by kernel_rfl)) k0 bel lt0) (trodAll_cons_mk (Below.trod laidOut (by kernel_rfl) (of_decide_eq_true (by kernel_rfl)) k1 bel lt1) trodAll_mk0)), rfl, bel.frame _, fun h => by cases h⟩

theorem atomPlays_said : Rows.AtomPlaysSaid :=
  OpenClaim.holds_of_wide 3 Try.f3 rfl rfl rfl rfl rfl rfl rfl ⟨rfl, rfl, rfl, rfl, rfl⟩ rfl rfl rfl rfl rfl (by kernel_rfl) Try.func3 (by kernel_rfl)
    (of_decide_eq_true (by kernel_rfl)) (by unfold Func.isWrapper; first | (rw [if_pos (by decide +kernel)]; kernel_rfl) | (rw [if_neg (by decide +kernel)]; exact ⟨rfl, rfl⟩))
    (fun os started H enc _ => atomPlays_lifted os started H enc)
#print axioms atomPlays_said

end Go.Proofs.Ytbgcnmebmbjdjaa
