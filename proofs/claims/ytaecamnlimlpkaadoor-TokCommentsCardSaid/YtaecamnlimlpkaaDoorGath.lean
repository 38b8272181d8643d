/- text.gather over whatever iterator tells at most as many integers as there is room for; text.Points and text.Prepare at every slice of bytes. -/
import Derived.Test.YtaecamnlimlpkaaDoorPrep
namespace Go.Proofs.YtaecamnlimlpkaaDoor
open Go Go.RowKit Go.Shelf
attribute [local go_sem] Oper.semAt_some

theorem infoInt : (Tryd.prog.info? 3).map (fun i => (i.zero, i.size, i.bytes)) = some (some (.int .i64 0), 1, 8) := by kernel_rfl

set_option maxRecDepth 100000 in
set_option maxHeartbeats 1000000 in
theorem gather_in (n n₀ room k gf : Nat) (lb : Array Value) (xs : List Int) (w : World) (hn : 1 ≤ n) (hn₀ : n₀ ≤ w.heap.size) (hroom : room * 8 ≤ 281474976710656) (eg : ∀ args w, (callFunc gf args).run Tryd.prog w = .ok (.enter gf args) w)
    (hseq : SeqX Fence.wide (n - 1) Tryd.prog gf lb (fun x : Int => #[.int .i64 x]) n₀ (fun ys => ys = xs) room k w) :
    CallsIn Fence.wide n Tryd.prog 15 #[.func (.func gf) #[] lb, .int .i64 room] w fun e w' => ∃ v, e = .returned v ∧ w'.ownsRow w.heap.size 3 1 v xs.length (xs.map (Value.int .i64)) ∧ Below w.heap.size w w' := by
  obtain ⟨i0, hi, hz0, hz1, hz2⟩ := info_parts infoInt
  refine callsIn_of_wp_marks Tryd.func15 rfl trivial ?_ rfl
  simp only [Tryd.ntmps15, List.size_toArray, List.length_cons, List.length_nil, Nat.reduceAdd, Nat.reduceSub, Array.replicate_succ, Array.replicate_zero, List.push_toArray, List.append_toArray, List.nil_append, List.cons_append]
  gi_wp2_with (gi_at_make; refine wpListIn_make_own _ rfl _ _ 38 rfl w.heap.size 3 i0 (.int .i64 0) 1 Tryd.underlying38 hi hz0 hz1 .i64 .i64 room room rfl rfl rfl (by rw [hz2]; omega) (by unfold maxLen; omega) (Nat.le_refl _) ?_; intro w1 hrow0 hgrow0)
  have hw1 : w.heap.size < w1.heap.size := (hrow0.lt _ rfl).2
  have bO := Boxed.new w1 38 (.slice (some ⟨w.heap.size, 0, none⟩) 0 room)
  have hr0 := hrow0.alloc (.cells #[.slice (some ⟨w.heap.size, 0, none⟩) 0 room] 38)
  have hB0 : Below w.heap.size w (w1.alloc (.cells #[.slice (some ⟨w.heap.size, 0, none⟩) 0 room] 38)) :=
    ((Below.refl _ w).grown hgrow0 (Nat.le_refl _) (fun _ e => by cases e)).alloc (by omega) _
  have hs0 : (w1.alloc (.cells #[.slice (some ⟨w.heap.size, 0, none⟩) 0 room] 38)).heap.size = w1.heap.size + 1 := by simp
  generalize w1.alloc (.cells #[.slice (some ⟨w.heap.size, 0, none⟩) 0 room] 38) = w2 at *
  refine wpIn_rangeFunc_X rfl hn (gf := gf) (lb := lb) rfl trivial eg (hseq.later hB0) (by omega) (Below.refl _ _) (fun _ => rfl)
    (fun pre X => Boxed X w1.heap.size 38 (.slice (some ⟨w.heap.size, 0, none⟩) pre.length room) ∧ X.ownsRow w.heap.size 3 1 (.slice (some ⟨w.heap.size, 0, none⟩) pre.length room) pre.length (pre.map (Value.int .i64)) ∧ Below w.heap.size w X)
    ?hI ⟨bO, hr0, hB0⟩
    (fun x => { tmps := #[.func (.func gf) #[] lb, .int .i64 room, undef, undef, .slice none 0 0, .pointer (some ⟨w1.heap.size, 0, none⟩), .int .i64 x, .int .i64 room, .slice (some ⟨w.heap.size, 0, none⟩) 0 room, .func (.func gf) #[] lb, .int .i64 x, undef, undef, undef, undef, undef], defers := [] }) ?assign ?body ?done
  case hI =>
    intro s X Y row hs hg hr
    refine ⟨hs.1.kept hg (fun e => by have := hr _ e.symm; omega), hs.2.1.kept hg (.inr (fun e => by have := hr _ e.symm; simp at this; omega)), hs.2.2.grown hg hs.2.2.size (fun r e => by have := hr r e; omega)⟩
  case assign =>
    intro l x X K hK
    gi_wp2
    exact hK
  case body =>
    rintro l' pre x X ⟨hb, hr, hB⟩ hlt hsz
    have hcb := hb.cell
    gi_wp2_with (gi_at_builtin; refine wpListIn_append_fits _ rfl _ _ 38 rfl w.heap.size 3 i0 1 Tryd.underlying38 hi hz1 w.heap.size pre.length room _ rfl (hr.alloc _) ⟨X.heap.size, 0, none⟩ 1 1 [.int .i64 x] rfl rfl (cell_one_new _ _ _) (by simp [Value.oneCell']) (by omega) ?_; intro w3 hown3 hgrow3; obtain ⟨hv1, hv2, hr2, hk2, hb2⟩ := hb.appended (by decide) hr hB.size (by omega) hown3 hgrow3; have hc3 := hv1.cell; have hf3 := hv1.frozen)
    have hl : (pre ++ [x]).length = pre.length + 1 := by simp
    have hm : (pre ++ [x]).map (Value.int .i64) = pre.map (Value.int .i64) ++ [.int .i64 x] := by simp
    refine ⟨⟨hb2.mono hn₀, fun r h1 h2 => ?_⟩, by rw [hl]; exact hv2, by rw [hl, hm]; exact hr2, hB.trans hb2⟩
    have e1 := (grownBy_setCell' w3 w1.heap.size (.slice (some ⟨w.heap.size, 0, none⟩) (pre.length + 1) room)).block r (Nat.lt_of_lt_of_le (by simp; omega) hgrow3.size) (by simp; omega)
    have e2 := hgrow3.block r (by simp; omega) (by simp; omega)
    exact e1.trans (e2.trans (Below.heap_alloc _ _ _ (by omega)))
  case done =>
    rintro ys X rfl ⟨hb, hr, hB⟩ hK
    have hcb := hb.cell
    gi_wp2
    refine ⟨by simp, .inl ⟨_, _, rfl, run_takeDeferred hK, ?_⟩⟩
    exact ⟨_, results_tmp rfl _ _ _, _, rfl, ownsRow_putObj hr _ hK rfl, hB.trans (belowK_b (w := w) (Nat.le_refl _) X w2.heap.size _ _ (by omega) hK rfl rfl)⟩

theorem egDec : ∀ args w, (callFunc 24 args).run Tryd.prog w = .ok (.enter 24 args) w := enters_of Tryd.func24 (by kernel_rfl) rfl
theorem egPrep : ∀ args w, (callFunc 22 args).run Tryd.prog w = .ok (.enter 22 args) w := enters_of Tryd.func22 (by kernel_rfl) rfl

theorem owns_base {X : World} {b b' : Nat} {e : TypeId} {size : Nat} {v : Value} {m : Nat} {xs : List Value} (h : X.ownsRow b e size v m xs) (hb : b' ≤ b) : X.ownsRow b' e size v m xs := by
  refine ⟨h.1, ?_⟩
  rcases h.2 with h2 | ⟨g, cap, cur, hv, hg, rest⟩
  · exact .inl h2
  · exact .inr ⟨g, cap, cur, hv, Nat.le_trans hb hg, rest⟩

/-- What is known of the iterator behind text.decoded: the slice's box lies at the heap's end. -/
theorem dec_seq (n : Nat) (v : Value) (bs : List UInt8) (w : World) (hB : BytesAt w.heap.size w v bs) (hT : Tabs w.heap.size w) :
    SeqX Fence.wide n Tryd.prog 24 #[.pointer (some ⟨w.heap.size, 0, none⟩)] (fun x : Int => #[.int .i64 x]) (w.heap.size + 1) (fun ys => ys = ipts bs) bs.length 0 (w.alloc (.cells #[v] 31)) := by
  have hb : Below w.heap.size w (w.alloc (.cells #[v] 31)) := (Below.refl _ w).alloc (Nat.le_refl _) _
  exact (decoded_seq n w.heap.size (w.heap.size + 1) v bs _ (by omega) (by simp) (Boxed.new w 31 v).cell ((hB.below hb).mono (by omega)) ((hT.below hb).mono (by omega))).more (ipts_length_le bs)

theorem BytesAt.len {n₀ : Nat} {X : World} {v : Value} {l : List UInt8} (h : BytesAt n₀ X v l) : ∃ p cap, v = .slice p l.length cap ∧ v.oneCell' = true := by
  rcases h.cases with ⟨rfl, p, cap, rfl⟩ | ⟨bk, off, cap, rfl, _⟩
  · exact ⟨_, _, rfl, rfl⟩
  · exact ⟨_, _, rfl, rfl⟩

/-- What is known of the iterator behind text.prepared. -/
theorem prep_seq (n : Nat) (v : Value) (bs : List UInt8) (w : World) (hn : 1 ≤ n) (hB : BytesAt w.heap.size w v bs) (hT : Tabs w.heap.size w) :
    SeqX Fence.wide n Tryd.prog 22 #[.pointer (some ⟨w.heap.size + 1, 0, none⟩)] (fun x : Int => #[.int .i64 x]) (w.heap.size + 2) (fun ys => ys = prep (ipts bs)) bs.length 4
      ((w.alloc (.cells #[v] 31)).alloc (.cells #[.func (.func 24) #[] #[.pointer (some ⟨w.heap.size, 0, none⟩)]] 45)) := by
  have hb : Below w.heap.size w ((w.alloc (.cells #[v] 31)).alloc (.cells #[.func (.func 24) #[] #[.pointer (some ⟨w.heap.size, 0, none⟩)]] 45)) := ((Below.refl _ w).alloc (Nat.le_refl _) _).alloc (by simp) _
  have b1 := (Boxed.new w 31 v).alloc (.cells #[.func (.func 24) #[] #[.pointer (some ⟨w.heap.size, 0, none⟩)]] 45)
  have b2 := Boxed.new (w.alloc (.cells #[v] 31)) 45 (.func (.func 24) #[] #[.pointer (some ⟨w.heap.size, 0, none⟩)])
  rw [World.size_alloc] at b2
  refine prepared_seq n (w.heap.size + 1) (w.heap.size + 2) bs.length 24 _ (ipts bs) _ hn (by omega) (by simp) egDec ?_ b2.cell
  exact (decoded_seq (n - 1) w.heap.size (w.heap.size + 2) v bs _ (by omega) (by simp) b1.cell ((hB.below hb).mono (by omega)) ((hT.below hb).mono (by omega))).more (ipts_length_le bs)

set_option maxHeartbeats 1000000 in
/-- text.Prepare AT EVERY SLICE OF BYTES. -/
theorem prepare_any (v : Value) (bs : List UInt8) (w : World) (hB : BytesAt w.heap.size w v bs) (hT : Tabs w.heap.size w) (hl : bs.length * 8 ≤ 281474976710656) :
    Calls Tryd.prog 13 #[v] w fun e w' => ∃ v', e = .returned v' ∧ w'.ownsRow w.heap.size 3 1 v' (prep (ipts bs)).length ((prep (ipts bs)).map (Value.int .i64)) ∧ Below w.heap.size w w' := by
  have hseq := prep_seq 1 v bs w (Nat.le_refl _) hB hT
  obtain ⟨p, cap, rfl, h1⟩ := hB.len
  have hg := gather_in 2 (w.heap.size + 2) bs.length 4 22 _ _ _ (by omega) (by simp) hl egPrep hseq
  have hb : Below w.heap.size w ((w.alloc (.cells #[.slice p bs.length cap] 31)).alloc (.cells #[.func (.func 24) #[] #[.pointer (some ⟨w.heap.size, 0, none⟩)]] 45)) := ((Below.refl _ w).alloc (Nat.le_refl _) _).alloc (by simp) _
  have hp := prepared_in 0 24 #[.pointer (some ⟨w.heap.size, 0, none⟩)] (w.alloc (.cells #[.slice p bs.length cap] 31))
  rw [World.size_alloc] at hp
  have hd := decoded_in 0 (.slice p bs.length cap) w h1
  clear hseq
  go_enter Tryd.func13, Tryd.ntmps13
  go_wp2_with fail
  refine (callsIn_wide.1 hd).mono ?_
  rintro e w' ⟨rfl, rfl⟩
  go_wp2_with fail
  refine (callsIn_wide.1 hp).mono ?_
  rintro e w' ⟨rfl, rfl⟩
  go_wp2_with fail
  refine (callsIn_wide.1 hg).mono ?_
  rintro e w' ⟨v', rfl, hr, hb'⟩
  go_wp2
  go_ret
  exact ⟨_, rfl, owns_base hr hb.size, hb.trans (hb'.mono hb.size)⟩

end Go.Proofs.YtaecamnlimlpkaaDoor
