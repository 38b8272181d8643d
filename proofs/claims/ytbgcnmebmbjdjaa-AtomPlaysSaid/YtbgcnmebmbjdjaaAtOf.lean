/- add: a name that has no number is given the next one; Of. -/
import Derived.Test.YtbgcnmebmbjdjaaAtAdd
namespace Go.Proofs.Ytbgcnmebmbjdjaa
open Go Go.RowKit Go.Shelf Go.Maps

/-- What a call leaves that gives a name to the table. -/
def Gave (w : World) (tb : Nat) (F : List Nat) (xs : List ByteArray) (w' : World) : Prop := ∃ F', Tab w' tb F' xs ∧ (∀ b ∈ F', b ∈ F ∨ w.heap.size ≤ b) ∧ Kept (· ∉ F) w w'

theorem shape_of {w : World} {base : Nat} {e : TypeId} {size : Nat} {v : Value} {n : Nat} {xs : List Value} (h : w.ownsRow base e size v (n + 1) xs) : ∃ g cap, v = .slice (some ⟨g, 0, none⟩) (n + 1) cap := by
  rcases h.2 with ⟨_, h0⟩ | ⟨g, cap, cur, rfl, _⟩
  · cases h0
  · exact ⟨g, cap, rfl⟩

set_option maxRecDepth 100000 in
set_option maxHeartbeats 1000000 in
theorem add_own (w : World) (tb mb g cap : Nat) (D : DataW Unit) (xs : List ByteArray) (x : ByteArray) (hM : Mid w tb mb (.slice (some ⟨g, 0, none⟩) xs.length cap) D xs) (hx : x ∉ xs) (hxs : x.size ≤ 281474976710656) (hn : xs.Nodup) (hz : ∀ s ∈ xs, s.size ≤ 281474976710656) (hl : xs.length < 65536) :
    Calls Try.prog 15 #[.pointer (some ⟨tb, 0, none⟩), .string x] w fun e w' => e = .returned (.int .i64 xs.length) ∧ Gave w tb [tb, g, mb] (xs ++ [x]) w' := by
  obtain ⟨i0, hi, hz0, hz1, hz2⟩ := info_parts infoStr
  have c0 := hM.pair.c0
  have c1 := hM.pair.c1
  have heq := fun W => eqlMapNil W (some mb)
  have hlen : ∀ n ty, (Builtin.len_ #[25] ty #[.map (some mb)]).run Try.prog (w.drewN n) = .ok (.int .i64 xs.length) (w.drewN n) := fun n ty => by
    have := (hM.drewN n).map.len Try.underlying25 ty
    rwa [hM.holds.size] at this
  have hkey := keyOf_kl hxs
  go_enter Try.func15, Try.ntmps15
  go_upto_region 1 with fail
  go_quiet (fail)
  have hWs : (w.drewN nq).heap.size = w.heap.size := rfl
  have kW : Kept (· ∉ [tb, g, mb]) w (w.drewN nq) := ⟨rfl, rfl, rfl, Nat.le_refl _, fun _ _ _ => rfl⟩
  have hM1 := hM.drewN nq
  have HS : Hid (_ = _) := hWs
  generalize w.drewN nq = W at *
  clear c0 c1 heq hlen hM hWs
  have c0 := hM1.pair.c0
  have c1 := hM1.pair.c1
  go_wp2_with (first
    | (at_builtin; refine wpList_append_own_at _ rfl _ _ 22 rfl 0 9 i0 (.string ⟨#[]⟩) 1 16 Try.underlying22 hi hz0 hz1 hz2 rfl (by decide) _ _ _ rfl (hM1.row.alloc _) ⟨W.heap.size, 0, none⟩ 1 1 [.string x] rfl rfl (cell_one_new _ _ _) (by simp [Value.oneCell']) (by unfold maxLen; omega) (by omega) (Nat.zero_le _) ?_; intro v' w1 hown' hgrow hnil hloc; obtain ⟨g', cap', rfl⟩ := shape_of hown'; obtain ⟨p1, p2, hm2⟩ := hM1.grown (v' := .slice (some ⟨g', 0, none⟩) (xs.length + 1) cap') hgrow; have d0 := p1.c0; have f0 := p1.f0; have d1 := p2.c1)
    | (at_mapUpdate; refine wpList_mapUpdate_own _ rfl _ _ _ 25 rfl 9 3 keyed Try.underlying25 _ mb _ _ rfl hm2 (by unfold maxLen; omega) _ _ _ rfl rfl hkey _ [] (plainElem_int Try.underlying3 (WalkArith.wf_i64 (by omega))) ?_; intro w3 hown3 hgrow3)
    | go_in)
  go_ret
  obtain ⟨F', t3, hF, k3⟩ := hM1.put hx hxs hn hz hown' hgrow hloc hown3 hgrow3
  refine ⟨rfl, F', t3, fun b hb => ?_, kW.trans (k3.mono (fun b _ hb => ?_))⟩
  · rcases hF b hb with rfl | rfl | e | e
    · exact .inl (by simp)
    · exact .inl (by simp)
    · simp [Value.ownBlock] at e
      exact .inl (by simp [e])
    · exact .inr (by rw [HS.out] at e; exact e)
  · simp at hb
    refine ⟨hb.1, hb.2.2, fun e => ?_⟩
    simp [Value.ownBlock] at e
    exact hb.2.1 e.symm

theorem Pair.drewN {W : World} {B : Nat} {t : TypeId} {v m : Value} (h : Pair W B t v m) (n : Nat) : Pair (W.drewN n) B t v m := h

set_option maxRecDepth 100000 in
set_option maxHeartbeats 1000000 in
theorem add_new (w : World) (tb : Nat) (x : ByteArray) (hp : Pair w tb 29 (.slice none 0 0) (.map none)) (hxs : x.size ≤ 281474976710656) :
    Calls Try.prog 15 #[.pointer (some ⟨tb, 0, none⟩), .string x] w fun e w' => e = .returned (.int .i64 0) ∧ Gave w tb [tb] [x] w' := by
  obtain ⟨i0, hi, hz0, hz1, hz2⟩ := info_parts infoStr
  have c1 := hp.c1
  have heq := fun W => eqlMapNil W none
  have hkey := keyOf_kl hxs
  have hparts := fun n => part_new (w.drewN n) tb (hp.drewN n)
  go_enter Try.func15, Try.ntmps15
  go_upto_region 1 with fail
  go_quiet (fail)
  have hc := hparts nq
  clear hparts
  go_wp2_with fail
  refine hc.mono ?_
  rintro e W ⟨rfl, hpW, hmW, kW⟩
  clear hc heq c1
  have kW' : Kept (· ∉ [tb]) w W := ⟨kW.os, kW.tape, kW.output, kW.size, fun b hb hk => kW.block b hb (by simpa using hk)⟩
  have HS : Hid ((w.drewN nq).heap.size = w.heap.size) := rfl
  have hM1 : Mid W tb (w.drewN nq).heap.size (.slice none 0 0) (.map []) [] := ⟨hpW, World.ownsRow_nil _ _ _ _, hmW, Holds.nil, fun e => by have := hp.lt; rw [HS.out] at e; omega, by simp [Value.ownBlock], by simp [Value.ownBlock]⟩
  have HZ : Hid (W.heap.size ≥ w.heap.size) := kW.size
  generalize (w.drewN nq).heap.size = mb at *
  have hrow : W.ownsRow 0 9 1 (.slice none 0 0) 0 [] := World.ownsRow_nil _ _ _ _
  clear hpW hmW kW
  have c0 := hM1.pair.c0
  have c1 := hM1.pair.c1
  go_wp2_with (first
    | (at_builtin; refine wpList_append_own_at _ rfl _ _ 22 rfl 0 9 i0 (.string ⟨#[]⟩) 1 16 Try.underlying22 hi hz0 hz1 hz2 rfl (by decide) _ _ _ rfl (hrow.alloc _) ⟨W.heap.size, 0, none⟩ 1 1 [.string x] rfl rfl (cell_one_new _ _ _) (by simp [Value.oneCell']) (by unfold maxLen; omega) (by omega) (Nat.zero_le _) ?_; intro v' w1 hown' hgrow _hnil hloc; obtain ⟨g', cap', rfl⟩ := shape_of hown'; obtain ⟨p1, p2, hm2⟩ := hM1.grown (v' := .slice (some ⟨g', 0, none⟩) (0 + 1) cap') hgrow; have d0 := p1.c0; have f0 := p1.f0; have d1 := p2.c1)
    | (at_mapUpdate; refine wpList_mapUpdate_own _ rfl _ _ _ 25 rfl 9 3 keyed Try.underlying25 _ mb _ _ rfl hm2 (by unfold maxLen; simp) _ _ _ rfl rfl hkey _ [] (plainElem_int Try.underlying3 (by decide)) ?_; intro w3 hown3 hgrow3)
    | go_in)
  go_ret
  obtain ⟨F', t3, hF, k3⟩ := hM1.put (x := x) (fun h => by cases h) hxs List.nodup_nil (fun _ h => by cases h) hown' hgrow hloc hown3 hgrow3
  refine ⟨rfl, F', t3, fun b hb => ?_, ⟨k3.os.trans kW'.os, k3.tape.trans kW'.tape, k3.output.trans kW'.output, Nat.le_trans kW'.size k3.size, fun b hb hk => ?_⟩⟩
  · rcases hF b hb with rfl | rfl | e | e
    · exact .inl (by simp)
    · exact .inr (by rw [HS.out]; exact Nat.le_refl _)
    · simp [Value.ownBlock] at e
    · exact .inr (Nat.le_trans HZ.out e)
  · have e1 := HS.out
    exact (k3.block b (Nat.lt_of_lt_of_le hb kW'.size) ⟨by simpa using hk, by omega, by simp [Value.ownBlock]⟩).trans (kW'.block b hb hk)

end Go.Proofs.Ytbgcnmebmbjdjaa
