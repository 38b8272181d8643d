/- Package bloom: countersOf and countersOfAll as iterators. -/
import Derived.Test.YtiaikkbmgnaikaaBlMem
namespace Go.Proofs.Ytiaikkbmgnaikaa.Bl
open Go Go.RowKit Go.Shelf
attribute [local go_sem] Oper.semAt_some

theorem egCtr : ∀ args w, (callFunc 40 args).run Try.prog w = .ok (.enter 40 args) w := enters_of Try.func40 (by kernel_rfl) rfl
theorem egAll : ∀ args w, (callFunc 37 args).run Try.prog w = .ok (.enter 37 args) w := enters_of Try.func37 (by kernel_rfl) rfl

/-- The two boxes that countersOf lays. -/
def twoB (h : Int) (w : World) : World := (w.alloc (.cells #[.int .u32 (firstV h)] 63)).alloc (.cells #[.int .u32 (secondV h)] 63)

set_option maxRecDepth 100000 in
theorem countersOf_in (n : Nat) (h : Int) (w : World) :
    CallsIn Fence.wide n Try.prog 31 #[.int .i64 h] w fun e w' => e = .returned (.func (.func 40) #[] #[.pointer (some ⟨w.heap.size, 0, none⟩), .pointer (some ⟨w.heap.size + 1, 0, none⟩)]) ∧ w' = twoB h w := by
  refine callsIn_of_wp Try.func31 rfl trivial ?_ rfl
  simp only [Try.ntmps31, List.size_toArray, List.length_cons, List.length_nil, Nat.reduceAdd, Nat.reduceSub, Array.replicate_succ, Array.replicate_zero, List.push_toArray, List.append_toArray, List.nil_append, List.cons_append]
  have h1 : h % 1024 = (firstV h : Int) := by unfold firstV loV; omega
  have h2 : h % 4294967296 / 1024 % 1024 = (secondV h : Int) := by unfold secondV loV; omega
  have H1 : Hid (_ = _) := h1
  have H2 : Hid (_ = _) := h2
  clear h1 h2
  gi_wp2
  go_ret
  refine ⟨rfl, ?_⟩
  rw [H1.out, H2.out]
  rfl
theorem countersOf_any (h : Int) (w : World) :
    Calls Try.prog 31 #[.int .i64 h] w fun e w' => e = .returned (.func (.func 40) #[] #[.pointer (some ⟨w.heap.size, 0, none⟩), .pointer (some ⟨w.heap.size + 1, 0, none⟩)]) ∧ w' = twoB h w :=
  callsIn_wide.1 (countersOf_in 1 h w)
theorem twoB_below (h : Int) (w : World) : Below w.heap.size w (twoB h w) := ((Below.refl _ w).alloc (Nat.le_refl _) _).alloc (by simp) _
theorem twoB_size (h : Int) (w : World) : (twoB h w).heap.size = w.heap.size + 2 := by simp [twoB]
theorem twoB_cells (h : Int) (w : World) : (twoB h w).cell? ⟨w.heap.size, 0, none⟩ = some (.int .u32 (firstV h)) ∧ (twoB h w).cell? ⟨w.heap.size + 1, 0, none⟩ = some (.int .u32 (secondV h)) := by
  constructor
  · exact (Boxed.new w 63 (.int .u32 (firstV h))).kept (World.grownBy_alloc _ _ none) (by simp) |>.cell
  · have := (Boxed.new (w.alloc (.cells #[.int .u32 (firstV h)] 63)) 63 (.int .u32 (secondV h))).cell
    rw [World.size_alloc] at this
    exact this

/-- countersOf's iterator. -/
theorem ctr_seq (n : Nat) (h : Int) (b1 b2 : Nat) (w : World) (c1 : w.cell? ⟨b1, 0, none⟩ = some (.int .u32 (firstV h))) (c2 : w.cell? ⟨b2, 0, none⟩ = some (.int .u32 (secondV h))) :
    SeqD Fence.wide n Try.prog 40 #[.pointer (some ⟨b1, 0, none⟩), .pointer (some ⟨b2, 0, none⟩)] (fun x : Nat => #[.int .u32 x]) (fun r => r = b1 ∨ r = b2) (ctrs h) w := by
  intro l J Jx D W hR hs hRD hD hJ hJx hY h0
  have d1 : W.cell? ⟨b1, 0, none⟩ = some (.int .u32 (firstV h)) := (World.cell?_of_block (a := ⟨b1, 0, none⟩) (hR b1 (.inl rfl))).trans c1
  have d2 : W.cell? ⟨b2, 0, none⟩ = some (.int .u32 (secondV h)) := (World.cell?_of_block (a := ⟨b2, 0, none⟩) (hR b2 (.inr rfl))).trans c2
  clear c1 c2 hR hs
  refine callsIn_of_wp Try.func40 rfl trivial ?_ rfl
  simp only [Try.ntmps40, List.size_toArray, List.length_cons, List.length_nil, Nat.reduceAdd, Nat.reduceSub, Array.replicate_succ, Array.replicate_zero, List.push_toArray, List.append_toArray, List.nil_append, List.cons_append]
  obtain ⟨post, hp⟩ : ∃ post, ctrs h = [] ++ firstV h :: post := by unfold ctrs; split; exact ⟨[], rfl⟩; exact ⟨_, rfl⟩
  obtain ⟨fn, tmps, assign, body, hy, hRo⟩ := hY [] (firstV h) post D W hp h0 (Fr.refl hD)
  have HP : Hid (_ = _) := hp
  have HY : Hid (∀ pre x post D1 W1, ctrs h = pre ++ x :: post → J pre D1 W1 → Fr D D1 W W1 → YieldAt Fence.wide (n - 1) Try.prog l #[.int .u32 (x : Nat)] W1 fun e W' =>
      (e = .returned (.bool true) ∧ ∃ D', J (pre ++ [x]) D' W' ∧ Fr D1 D' W1 W') ∨ (e = .returned (.bool false) ∧ ∃ D', Jx (pre ++ [x]) D' W' ∧ Fr D1 D' W1 W')) := hY
  have e1 := hRD b1 (.inl rfl)
  have e2 := hRD b2 (.inr rfl)
  clear hp hY hRD
  gi_wp2_with fail
  refine ⟨fun h => (by cases h), hRo.mono ?_⟩
  clear hRo hy
  rintro e w2 (⟨rfl, D', hJ', fr⟩ | ⟨rfl, D', hJ', fr⟩)
  · have g1 := fr.keep (p := ⟨b1, 0, none⟩) e1 d1
    have g2 := fr.keep (p := ⟨b2, 0, none⟩) e2 d2
    by_cases hc : secondV h = firstV h
    · have hb : ((secondV h : Int) != (firstV h : Int)) = false := by simp [hc]
      have HC : Hid (ctrs h = [] ++ [firstV h]) := if_pos hc
      clear hc d1 d2
      gi_wp2
      go_end0
      exact ⟨⟨_, rfl⟩, D', fr, .inl (by rw [show ctrs h = _ from HC.out]; exact hJ')⟩
    · have hb : ((secondV h : Int) != (firstV h : Int)) = true := bne_iff_ne.2 (by omega)
      have HC : Hid (ctrs h = [firstV h] ++ [secondV h]) := if_neg hc
      obtain ⟨fn, tmps, assign, body, hy, hRo⟩ := HY.out [firstV h] (secondV h) [] D' w2 HC.out hJ' fr
      clear hc d1 d2
      gi_wp2_with fail
      refine ⟨fun h => (by cases h), hRo.mono ?_⟩
      clear hRo hy
      rintro e w3 (⟨rfl, D2, hJ2, fr2⟩ | ⟨rfl, D2, hJ2, fr2⟩)
      · gi_wp2
        go_end0
        exact ⟨⟨_, rfl⟩, D2, fr.trans fr2, .inl (by rw [show ctrs h = _ from HC.out]; exact hJ2)⟩
      · gi_wp2
        go_end0
        exact ⟨⟨_, rfl⟩, D2, fr.trans fr2, .inr ⟨_, _, _, HC.out, hJ2⟩⟩
  · gi_wp2
    go_end0
    exact ⟨⟨_, rfl⟩, D', fr, .inr ⟨_, _, _, HP.out, hJ'⟩⟩

end Go.Proofs.Ytiaikkbmgnaikaa.Bl
