/- For every two strings and every slice of strings: the law tapestrierlaw2.AtomEach returns true and leaves its arguments as they were; no condition. -/
import Derived.Test.YtbgcnmebmbjdjaaAtArgs
namespace Go.Proofs.Ytbgcnmebmbjdjaa
open Go Go.ChangeShapes Go.WideShapes Go.ChangeAt Go.RowKit
open Go.ChangeMaps (open_string shut_string)

/-- Of, whatever the name: it has its number behind the call, and all others keep theirs. -/
theorem Of_any (w : World) (tb : Nat) (F : List Nat) (xs : List ByteArray) (s : ByteArray) (hT : Tab w tb F xs) (hz : s.size ≤ 281474976710656) (hl : xs.length < 65536) :
    Calls Try.prog 7 #[.pointer (some ⟨tb, 0, none⟩), .string s] w fun e w' => ∃ zs, e = .returned (.tuple #[.int .i64 (zs.idxOf s), .bool true]) ∧ s ∈ zs ∧ zs.length ≤ xs.length + 1 ∧ Gave w tb F zs w' ∧ ∀ t ∈ xs, t ∈ zs ∧ zs.idxOf t = xs.idxOf t := by
  by_cases hs : s ∈ xs
  · exact (Of_yes w tb F xs s hT hs (by omega)).mono fun e w' ⟨he, hb⟩ => ⟨xs, he, hs, by omega, ⟨F, hT.below hb, fun b hb => .inl hb, .of_below hb⟩, fun t ht => ⟨ht, rfl⟩⟩
  · exact (Of_no w tb F xs s hT hs hz hl).mono fun e w' ⟨he, hb⟩ => ⟨xs ++ [s], by rw [idx_no hs]; exact he, by simp, by simp, hb, fun t ht => ⟨List.mem_append_left _ ht, idx_yes ht⟩⟩

theorem idx_inj {xs : List ByteArray} {a b : ByteArray} (ha : a ∈ xs) (hb : b ∈ xs) (h : xs.idxOf a = xs.idxOf b) : a = b := by
  haveI := lawBA
  have h1 := List.getElem_idxOf (List.idxOf_lt_length_of_mem ha)
  have h2 := List.getElem_idxOf (List.idxOf_lt_length_of_mem hb)
  rw [← h1, ← h2]
  simp [h]

theorem beq_false {a b : ByteArray} (h : a ≠ b) : (a.toList == b.toList) = false := by
  rw [ByteArray.toList_eq, ByteArray.toList_eq, beq_eq_false_iff_ne]
  exact fun e => h (WideShapes.bytes_inj e)

set_option maxRecDepth 100000 in
set_option maxHeartbeats 1000000 in
theorem atomEach_walk (w : World) (a : ByteArray) (ha : a.size ≤ 281474976710656) (b : ByteArray) (hb : b.size ≤ 281474976710656) (v : Value) (l : List ByteArray) (hL : StrsAt w.heap.size w v l) (hS : ∀ s ∈ l, s.size ≤ 281474976710656) :
    Calls Try.prog 4 #[.string a, .string b, v] w fun e w' => e = .returned (.bool true) ∧ Below w.heap.size w w' := by
  obtain ⟨p, cap, rfl⟩ := hL.len
  have h0 := alive_any w
  by_cases hl : l.length ≤ 60
  · have hi : ¬ (60 : Int) < l.length := by omega
    go_enter Try.func4, Try.ntmps4
    go_wp2_with fail
    refine h0.mono ?_
    rintro e w1 ⟨rfl, b1⟩
    clear h0
    have t0 := Tab.new w1
    have b2 := b1.alloc b1.size (.cells #[.slice none 0 0, .map none] 29)
    have hlt := b1.size
    go_wp2
    go_loopw [9] (fun i wr => ∃ (k : Nat) (F : List Nat) (xs : List ByteArray), i = .int .i64 k ∧ k ≤ l.length ∧ Tab wr w1.heap.size F xs ∧ xs.length ≤ k ∧ (∀ b ∈ F, w.heap.size ≤ b) ∧ Below w.heap.size w wr) (fun i _ => l.length - (intOf i).toNat)
    case atStart => exact ⟨0, _, [], rfl, Nat.zero_le _, t0, Nat.le_refl _, fun b hb => (by simp at hb; omega), b2⟩
    case round =>
      obtain ⟨k, F, xs, rfl, hk, tr, hx, hF, br⟩ := hrel
      clear t0 b2
      by_cases hlt' : k < l.length
      · obtain ⟨bk, off, u, rfl, _, hu, hc, _⟩ := (hL.below br).get hlt'
        have hki : (k : Int) < (l.length : Int) := by omega
        have hof := Of_any wr w1.heap.size F xs u tr (hS u hu) (by omega)
        clear hL
        go_wp2_with fail
        refine hof.mono ?_
        rintro e w2 ⟨ys, rfl, _, hy, hg, _⟩
        clear hof
        obtain ⟨F', t', hF', b'⟩ := hg.lt br.size hF
        go_wp2
        exact ⟨⟨k + 1, F', _, by go_num, by omega, t', by omega, hF', br.trans b'⟩, by simp [intOf]; omega⟩
      · have hki : ¬ (k : Int) < (l.length : Int) := by omega
        have ho1 := Of_any wr w1.heap.size F xs a tr ha (by omega)
        go_wp2_with fail
        refine ho1.mono ?_
        clear ho1
        rintro e w2 ⟨y1, rfl, m1, l1, g1, _⟩
        obtain ⟨F1, t1, hF1, c1⟩ := g1.lt br.size hF
        have d1 := br.trans c1
        have ho2 := Of_any w2 w1.heap.size F1 _ b t1 hb (by omega)
        go_wp2_with fail
        refine ho2.mono ?_
        clear ho2
        rintro e w3 ⟨y2, rfl, m2, l2, g2, n2⟩
        obtain ⟨F2, t2, hF2, c2⟩ := g2.lt d1.size hF1
        have d2 := d1.trans c2
        have ho3 := Of_any w3 w1.heap.size F2 _ a t2 ha (by omega)
        go_wp2_with fail
        refine ho3.mono ?_
        clear ho3
        rintro e w4 ⟨y3, rfl, _, _, g3, n3⟩
        obtain ⟨F3, _, _, c3⟩ := g3.lt d2.size hF2
        have d3 := d2.trans c3
        obtain ⟨m12, e2⟩ := n2 a m1
        obtain ⟨_, e3⟩ := n3 a m12
        rw [e3]
        clear t1 t2 g1 g2 g3 tr hL c1 c2 c3 d1 d2 n2 n3 e3
        by_cases hab : a = b
        · subst hab
          go_wp2
          go_ret
          exact ⟨by simp, d3⟩
        · have q1 := beq_false hab
          have q2 : y1.idxOf a ≠ y2.idxOf b := fun e => hab (idx_inj m12 m2 (e2.trans e))
          rw [e2]
          generalize y1.idxOf a = n1 at *
          generalize y2.idxOf b = n2 at *
          have q3 : ((n1 : Int) == (n2 : Int)) = false := by simp; omega
          clear m1 m12 m2 e2 q2
          go_wp2
          go_ret
          exact ⟨by simp, d3⟩
  · have hi : (60 : Int) < l.length := by omega
    go_enter Try.func4, Try.ntmps4
    go_wp2_with fail
    refine h0.mono ?_
    rintro e w1 ⟨rfl, b1⟩
    go_wp2
    go_ret
    exact ⟨rfl, b1⟩


set_option maxRecDepth 100000 in
theorem atomEach_lifted (os : Os) (started : os.Started) (H : Type) (enc : TypeId × Value → H) :
    ReturnsInHanded {} Try.checked os 4 .any (Rows.atomEachSpec.pre6 enc Try.prog Try.f4 Rows.atomEachRow.domain false) (Rows.atomEachSpec.post enc Try.prog Try.f4 false true false false) := by
  refine returnsInHanded_of_change_sized (C := Try.checked) ownNone started (by kernel_rfl) Try.func4
    (ChangeSpec.witness6 (enc := enc) (C := Try.checked) false ⟨#[], #[.string ⟨#[]⟩, .string ⟨#[]⟩, .slice none 0 0], []⟩ 8 (by kernel_rfl) (by kernel_rfl) (by kernel_rfl) (by kernel_rfl)) ?_
  intro W base args ds gs before hval hW _ hsz0 _
  have hW' := hW
  obtain ⟨p, q, hA0, hV, rfl, hfz, hnd⟩ := hW
  have hA : DataW.TrodAll enc Try.prog W 0 (fun _ => true) true Try.f4.params.toList args.toList ds p := hA0
  rw [Try.params4] at hA hval hsz0
  obtain ⟨v0, vs0, d0, ds0, p0, q0, hargs, rfl, rfl, h0, r0⟩ := trodAll_cons hA
  obtain ⟨v1, vs1, d1, ds1, p1, q1, rfl, rfl, rfl, h1, r1⟩ := trodAll_cons r0
  obtain ⟨v2, vs2, d2, ds2, p2, q2, rfl, rfl, rfl, h2, r2⟩ := trodAll_cons r1
  obtain ⟨rfl, rfl, rfl⟩ := trodAll_nil r2
  obtain rfl : args = #[v0, v1, v2] := by cases args; simp_all
  obtain ⟨rfl, rfl⟩ := trodVars_none hV
  have hsz := List.all_eq_true.1 hsz0
  obtain ⟨s0, rfl, rfl, rfl, w0⟩ := open_string Try.underlying9 (hval 0 9 v0 rfl rfl) h0
  have y0 : s0.size ≤ 281474976710656 := short_string (by simpa using hsz s0.data.toList.length (DataW.weights_mem_each (j := 0) rfl rfl _ (by simp [DataW.weights])))
  obtain ⟨s1, rfl, rfl, rfl, w1⟩ := open_string Try.underlying9 (hval 1 9 v1 rfl rfl) h1
  have y1 : s1.size ≤ 281474976710656 := short_string (by simpa using hsz s1.data.toList.length (DataW.weights_mem_each (j := 1) rfl rfl _ (by simp [DataW.weights])))
  obtain ⟨a2, len2, cap2, rfl⟩ := okWide_slice Try.underlying22 (hval 2 22 v2 rfl rfl)
  have k2 := h2
  have lt2 : ∀ x ∈ p2, x.block < W.heap.size := by obtain ⟨m, hm⟩ := k2; exact DataW.trod_lt m _ _ _ hm
  obtain ⟨z2, w2, y2⟩ := strsAt_of_reads k2 (fun n hn => by simpa using hsz n (DataW.weights_mem_each (j := 2) rfl rfl n hn))
  clear hA0
  refine (atomEach_walk W s0 y0 s1 y1 _ z2 w2 y2).mono fun e W' ⟨he, bel⟩ => ?_
  subst he
  exact ⟨_, rfl, _, _, _, [], _, [], hW', trodAll_mk1 (shut_bool Try.underlying4 _), (trodAll_cons_mk (shut_string Try.underlying9 w0) (trodAll_cons_mk (shut_string Try.underlying9 w1) (trodAll_cons_mk (Below.trod laidOut (by kernel_rfl) (of_decide_eq_true (by kernel_rfl)) k2 bel lt2) trodAll_mk0))), rfl, bel.frame _, fun h => by cases h⟩

theorem atomEach_said : Rows.AtomEachSaid :=
  OpenClaim.holds_of_wide 4 Try.f4 rfl rfl rfl rfl rfl rfl rfl ⟨rfl, rfl, rfl, rfl, rfl⟩ rfl rfl rfl rfl rfl (by kernel_rfl) Try.func4 (by kernel_rfl)
    (of_decide_eq_true (by kernel_rfl)) (by unfold Func.isWrapper; first | (rw [if_pos (by decide +kernel)]; kernel_rfl) | (rw [if_neg (by decide +kernel)]; exact ⟨rfl, rfl⟩))
    (fun os started H enc _ => atomEach_lifted os started H enc)
#print axioms atomEach_said

end Go.Proofs.Ytbgcnmebmbjdjaa
