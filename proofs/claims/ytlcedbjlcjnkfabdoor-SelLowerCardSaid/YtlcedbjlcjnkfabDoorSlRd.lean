/- The reader of selectors: where it stands, what it sees, what it pulls (ahead, pull, passes, passWhite). -/
import Derived.Test.YtlcedbjlcjnkfabDoorSlTok
namespace Go.Proofs.YtlcedbjlcjnkfabDoor.Sl
open Go Go.RowKit

/-- The reader R over the tokens ts stands at the place a, so many lists deep. -/
structure Rd (n₀ : Nat) (W : World) (R : Nat) (v : Value) (ts : List Bt) (a : Nat) (deep : Int) : Prop where
  blk : Blk W R 46 [v, .int .i64 a, .int .i64 deep]
  toks : BtsAt n₀ W v ts
  low : n₀ ≤ R
  least : a ≤ ts.length
  most : ts.length ≤ 1000
theorem Rd.lt {n₀ : Nat} {W : World} {R : Nat} {v : Value} {ts : List Bt} {a : Nat} {deep : Int} (h : Rd n₀ W R v ts a deep) : R < W.heap.size := h.blk.lt
theorem Rd.kept {n₀ : Nat} {W W' : World} {R : Nat} {v : Value} {ts : List Bt} {a : Nat} {deep : Int} (h : Rd n₀ W R v ts a deep) {keep : Nat → Prop} (hk : Kept keep W W') (hR : keep R) (hn : ∀ b, b < n₀ → keep b) : Rd n₀ W' R v ts a deep :=
  ⟨hk.blk h.blk hR, h.toks.below (hk.below (Nat.le_trans h.low (Nat.le_of_lt h.lt)) hn), h.low, h.least, h.most⟩
theorem Rd.below {n₀ : Nat} {W W' : World} {R : Nat} {v : Value} {ts : List Bt} {a : Nat} {deep : Int} (h : Rd n₀ W R v ts a deep) (hb : Below W.heap.size W W') : Rd n₀ W' R v ts a deep :=
  h.kept (keep := fun _ => True) (.of_below hb) trivial (fun _ _ => trivial)
/-- It goes on to the place b. -/
theorem Rd.set {n₀ : Nat} {W : World} {R : Nat} {v : Value} {ts : List Bt} {a : Nat} {deep : Int} (h : Rd n₀ W R v ts a deep) {b : Nat} (hb : b ≤ ts.length) : Rd n₀ (W.setCell ⟨R, 1, none⟩ (.int .i64 b)) R v ts b deep :=
  ⟨blk_put h.blk 1 _, h.toks.below ((Below.refl n₀ W).setCell (p := ⟨R, 1, none⟩) h.low _), h.low, hb, h.most⟩
theorem Rd.depth {n₀ : Nat} {W : World} {R : Nat} {v : Value} {ts : List Bt} {a : Nat} {deep : Int} (h : Rd n₀ W R v ts a deep) (d : Int) : Rd n₀ (W.setCell ⟨R, 2, none⟩ (.int .i64 d)) R v ts a d :=
  ⟨blk_put h.blk 2 _, h.toks.below ((Below.refl n₀ W).setCell (p := ⟨R, 2, none⟩) h.low _), h.low, h.least, h.most⟩
theorem Rd.other {n₀ : Nat} {W : World} {R : Nat} {v : Value} {ts : List Bt} {a : Nat} {deep : Int} (h : Rd n₀ W R v ts a deep) {C i : Nat} (hne : C ≠ R) (hn : n₀ ≤ C) (u : Value) : Rd n₀ (W.setCell ⟨C, i, none⟩ u) R v ts a deep :=
  h.kept (keep := fun b => b ≠ C) (Kept.setCell W _ u (by simp)) (Ne.symm hne) (fun b hb => by omega)
theorem Rd.other5 {n₀ : Nat} {W : World} {R : Nat} {v : Value} {ts : List Bt} {a : Nat} {deep : Int} (h : Rd n₀ W R v ts a deep) {C : Nat} (hne : C ≠ R) (hn : n₀ ≤ C) (x y z u t : Value) : Rd n₀ (set5 W C x y z u t) R v ts a deep := ((((h.other hne hn x).other hne hn y).other hne hn z).other hne hn u).other hne hn t
theorem Kept.fresh5 {keep : Nat → Prop} {w W : World} (h : Kept keep w W) {C : Nat} (hC : w.heap.size ≤ C) (x y z u t : Value) : Kept keep w (set5 W C x y z u t) := ((((h.fresh hC x).fresh hC y).fresh hC z).fresh hC u).fresh hC t
/-- Where the reader stands. -/
def placeOf (W : World) (R : Nat) : Nat := match W.cell? ⟨R, 1, none⟩ with
  | some x => (intOf x).toNat
  | none => 0
theorem Rd.place {n₀ : Nat} {W : World} {R : Nat} {v : Value} {ts : List Bt} {a : Nat} {deep : Int} (h : Rd n₀ W R v ts a deep) : placeOf W R = a := by
  unfold placeOf
  rw [(blk3 h.blk).1.2.1]
  simp [intOf]

set_option maxRecDepth 100000 in
set_option maxHeartbeats 1000000 in
theorem ahead_any (n₀ R : Nat) (v : Value) (ts : List Bt) (a : Nat) (deep : Int) (w : World) (hP : Rd n₀ w R v ts a deep) :
    Calls Tryd.prog 33 #[.pointer (some ⟨R, 0, none⟩)] w fun e w' => e = .returned (tkV (at' ts a)) ∧ Below w.heap.size w w' := by
  have hla := hP.least
  have hlm := hP.most
  have bz : Below w.heap.size w (w.alloc (.cells #[.int .i64 0, .string ⟨#[]⟩, .int .i64 0, .bool false, .int .i64 0] 60)) := (Below.refl _ _).alloc (Nat.le_refl _) _
  have k0 := Blk.new w 60 [.int .i64 0, .string ⟨#[]⟩, .int .i64 0, .bool false, .int .i64 0]
  obtain ⟨q, cap, rfl⟩ := hP.toks.len
  have hP1 := hP.below bz
  obtain ⟨⟨p0, p1, _⟩, _⟩ := blk3 hP1.blk
  have hR := hP.lt
  obtain ⟨T, hT⟩ : ∃ T, at' ts a = T := ⟨_, rfl⟩
  rw [hT]
  go_enter Tryd.func33, Tryd.ntmps33
  go_upto_region 1 with fail
  replace k0 : Blk (w.alloc (.cells #[.int .i64 0, .string ⟨#[]⟩, .int .i64 0, .bool false, .int .i64 0] 60)) w.heap.size _ _ := k0
  generalize w.alloc (.cells #[.int .i64 0, .string ⟨#[]⟩, .int .i64 0, .bool false, .int .i64 0] 60) = W at *
  obtain ⟨⟨c0, c1, c2, c3, c4⟩, f0, f1, f2, f3, f4⟩ := blk5 k0
  have hB := k0.lt
  have hw3 : IntKind.i64.wrap (a : Int) = (a : Int) := by rw [IntKind.wrap_i64]; omega
  by_cases hlt : a < ts.length
  · have hg1 : ts[a]? = some T := by rw [← hT, at', List.getElem?_eq_getElem hlt]; rfl
    obtain ⟨bk, off, rfl, hbk, hc1, hc2, x0, x1, x2, x3, x4⟩ := hP1.toks.get hg1
    have hi0 : ((a : Int) == (ts.length : Int)) = false := by simp; omega
    have hi1 : (a == ts.length) = false := by simp; omega
    have hi2 : (a : Int) < (ts.length : Int) := by omega
    clear hP hP1 hg1 hT
    go_quiet (fail)
    go_wp2
    go_region_law (fail)
    all_goals
      go_wp2
      refine bodyPost_ret (results_struct rfl _ _ w.heap.size _ rfl (load_tk (blk_set5 (blk_drew k0 (nq + 1)) (.int .i64 T.kind) (.string T.text) (.int .i64 T.n) (.bool T.whole) (.int .i64 T.c)))) rfl ?_
      exact ⟨rfl, below_grown (below_drewN' bz (nq + 1)) (grown_set5 (W.drewN (nq + 1)) w.heap.size (.int .i64 T.kind) (.string T.text) (.int .i64 T.n) (.bool T.whole) (.int .i64 T.c)) (Nat.le_of_lt hB) (Nat.le_refl _)⟩
  · obtain rfl : zeroT = T := by rw [← hT, (at_none (by omega)).2]
    obtain rfl : a = ts.length := by omega
    clear hP hP1 hT
    go_quiet (fail)
    go_wp2
    refine bodyPost_ret (results_struct rfl _ _ w.heap.size _ rfl (load_tk (blk_set5 (blk_drew k0 nq) (.int .i64 0) (.string ⟨#[]⟩) (.int .i64 0) (.bool false) (.int .i64 0)))) rfl ?_
    exact ⟨rfl, below_grown (below_drewN' bz nq) (grown_set5 (W.drewN nq) w.heap.size (.int .i64 0) (.string ⟨#[]⟩) (.int .i64 0) (.bool false) (.int .i64 0)) (Nat.le_of_lt hB) (Nat.le_refl _)⟩

set_option maxRecDepth 100000 in
set_option maxHeartbeats 1000000 in
theorem pull_any (n₀ R : Nat) (v : Value) (ts : List Bt) (a : Nat) (deep : Int) (w : World) (hP : Rd n₀ w R v ts a deep) (kv : Value) (ks : List Int) (hk : IntsAt w.heap.size w kv ks) (hl : ks.length ≤ 1000) (h0 : ks.contains 0 = false) :
    Calls Tryd.prog 23 #[.pointer (some ⟨R, 0, none⟩), kv] w fun e w' => e = .returned (.tuple #[tkV (if ks.contains (at' ts a).kind then at' ts a else zeroT), .bool (ks.contains (at' ts a).kind)]) ∧ Rd n₀ w' R v ts (if ks.contains (at' ts a).kind then a + 1 else a) deep ∧ But R w w' := by
  have hlm := hP.most
  have hR := hP.lt
  have hlo := hP.low
  have b0 : Below w.heap.size w (w.alloc (.cells #[.int .i64 0, .string ⟨#[]⟩, .int .i64 0, .bool false, .int .i64 0] 60)) := (Below.refl _ _).alloc (Nat.le_refl _) _
  have kZ := Blk.new w 60 [.int .i64 0, .string ⟨#[]⟩, .int .i64 0, .bool false, .int .i64 0]
  replace kZ : Blk (w.alloc (.cells #[.int .i64 0, .string ⟨#[]⟩, .int .i64 0, .bool false, .int .i64 0] 60)) w.heap.size _ _ := kZ
  have hP0 := hP.below b0
  have hal : ks.contains (at' ts a).kind = true → a < ts.length := fun h => at_lt (fun e => by rw [e, h0] at h; cases h)
  obtain ⟨pk, ck, rfl⟩ := hk.len
  have h1 := fun X hX => ahead_any n₀ R v ts a deep X hX
  obtain ⟨T, hT⟩ : ∃ T, at' ts a = T := ⟨_, rfl⟩
  obtain ⟨B, hB⟩ : ∃ B, ks.contains T.kind = B := ⟨_, rfl⟩
  rw [hT] at hal h1 ⊢
  rw [hB] at hal ⊢
  have hsz0 : (w.alloc (.cells #[.int .i64 0, .string ⟨#[]⟩, .int .i64 0, .bool false, .int .i64 0] 60)).heap.size = w.heap.size + 1 := World.size_alloc _ _
  go_enter Tryd.func23, Tryd.ntmps23
  go_upto_region 1 with fail
  generalize w.alloc (.cells #[.int .i64 0, .string ⟨#[]⟩, .int .i64 0, .bool false, .int .i64 0] 60) = W0 at *
  replace h1 := h1 W0 hP0
  unfold tkV at h1
  go_wp2_with fail
  refine h1.mono ?_
  clear h1
  rintro e w1 ⟨rfl, b1⟩
  have bO : Below w1.heap.size w1 (w1.alloc (.cells #[.int .i64 T.kind, .string T.text, .int .i64 T.n, .bool T.whole, .int .i64 T.c] 60)) := (Below.refl _ _).alloc (Nat.le_refl _) _
  have kO : Blk (w1.alloc (.cells #[.int .i64 T.kind, .string T.text, .int .i64 T.n, .bool T.whole, .int .i64 T.c] 60)) w1.heap.size 60 [.int .i64 T.kind, .string T.text, .int .i64 T.n, .bool T.whole, .int .i64 T.c] := Blk.new w1 60 _
  have b2 := below_next (below_next b0 b1) bO
  have hP2 := (hP0.below b1).below bO
  replace kZ := (kZ.below b1 kZ.lt).below bO (Nat.lt_of_lt_of_le kZ.lt b1.size)
  have hw1 : w.heap.size < w1.heap.size := by have := b1.size; omega
  clear hsz0
  go_upto_region 2 with fail
  generalize w1.alloc (.cells #[.int .i64 T.kind, .string T.text, .int .i64 T.n, .bool T.whole, .int .i64 T.c] 60) = w2 at *
  have h2 := contains_any (.slice pk ks.length ck) ks T.kind w2 ((hk.below b2).mono b2.size) (by omega)
  obtain ⟨⟨c0, c1, c2, c3, c4⟩, _⟩ := blk5 kO
  obtain ⟨⟨z0, z1, z2, z3, z4⟩, f0, f1, f2, f3, f4⟩ := blk5 kZ
  obtain ⟨⟨p0, p1, p2⟩, g0, g1, g2⟩ := blk3 hP2.blk
  rw [hB] at h2
  clear hk
  go_wp2_with fail
  refine h2.mono ?_
  clear h2
  rintro e w3 ⟨rfl, hw3⟩
  subst hw3
  have hkeep : But R w w3 := .of_below b2
  cases B with
  | true =>
    have hlt := hal rfl
    have hw : IntKind.i64.wrap ((a : Int) + 1) = (a : Int) + 1 := by rw [IntKind.wrap_i64]; omega
    have hP3 := hP2.set (b := a + 1) (by omega)
    have hk3 := hkeep.trans (But.set R w3 1 (.int .i64 (a + 1 : Nat)))
    have kZ3 := (But.set R w3 1 (.int .i64 (a + 1 : Nat))).blk kZ (by omega)
    push_cast at hP3 hk3 kZ3
    clear hal hB
    go_wp2
    refine bodyPost_ret (results_struct_tmp rfl _ _ w.heap.size _ rfl (load_tk (blk_set5 kZ3 (.int .i64 T.kind) (.string T.text) (.int .i64 T.n) (.bool T.whole) (.int .i64 T.c)))) rfl ?_
    exact ⟨rfl, hP3.other5 (by omega) (by omega) _ _ _ _ _, hk3.fresh5 (Nat.le_refl _) _ _ _ _ _⟩
  | false =>
    clear hal hB
    go_wp2
    refine bodyPost_ret (results_struct_tmp rfl _ _ w.heap.size _ rfl (load_tk (blk_set5 kZ (.int .i64 0) (.string ⟨#[]⟩) (.int .i64 0) (.bool false) (.int .i64 0)))) rfl ?_
    exact ⟨rfl, hP2.other5 (by omega) (by omega) _ _ _ _ _, hkeep.fresh5 (Nat.le_refl _) _ _ _ _ _⟩

set_option maxRecDepth 100000 in
set_option maxHeartbeats 1000000 in
theorem passes_any (n₀ R : Nat) (v : Value) (ts : List Bt) (a : Nat) (deep : Int) (k : Int) (w : World) (hP : Rd n₀ w R v ts a deep) (hk : k ≠ 0) :
    Calls Tryd.prog 10 #[.pointer (some ⟨R, 0, none⟩), .int .i64 k] w fun e w' => e = .returned (.bool (decide ((at' ts a).kind = k))) ∧ Rd n₀ w' R v ts (if (at' ts a).kind = k then a + 1 else a) deep ∧ But R w w' := by
  have b0 : Below w.heap.size w (w.alloc (.cells #[.int .i64 k] 3)) := (Below.refl _ _).alloc (Nat.le_refl _) _
  have hP0 := hP.below b0
  have hI : IntsAt (w.alloc (.cells #[.int .i64 k] 3)).heap.size (w.alloc (.cells #[.int .i64 k] 3)) (.slice (some ⟨w.heap.size, 0, none⟩) 1 1) [k] := by
    rw [World.size_alloc]
    exact ints_new w [k] 3 (by simp)
  have h1 := pull_any n₀ R v ts a deep _ hP0 _ [k] hI (by simp) (by simpa using Ne.symm hk)
  have hc : ([k].contains (at' ts a).kind) = decide ((at' ts a).kind = k) := by simp
  rw [hc] at h1
  clear hc hI hP0
  generalize at' ts a = T at *
  by_cases hTk : T.kind = k
  · rw [decide_eq_true hTk, if_pos rfl, if_pos rfl] at h1
    rw [decide_eq_true hTk, if_pos hTk]
    unfold tkV at h1
    clear hTk
    go_enter Tryd.func10, Tryd.ntmps10
    go_wp2_with fail
    refine h1.mono ?_
    clear h1
    rintro e w1 ⟨rfl, hP1, hb1⟩
    have hb : But R w w1 := (Kept.of_below b0).trans hb1
    have ba : Below w1.heap.size w1 (w1.alloc (.cells #[.int .i64 T.kind, .string T.text, .int .i64 T.n, .bool T.whole, .int .i64 T.c] 60)) := (Below.refl _ _).alloc (Nat.le_refl _) _
    go_wp2
    go_ret
    exact ⟨rfl, hP1.below ba, hb.trans (.of_below ba)⟩
  · rw [decide_eq_false hTk, if_neg (by simp), if_neg (by simp)] at h1
    rw [decide_eq_false hTk, if_neg hTk]
    unfold tkV zeroT at h1
    clear hTk
    go_enter Tryd.func10, Tryd.ntmps10
    go_wp2_with fail
    refine h1.mono ?_
    clear h1
    rintro e w1 ⟨rfl, hP1, hb1⟩
    have hb : But R w w1 := (Kept.of_below b0).trans hb1
    have ba : Below w1.heap.size w1 (w1.alloc (.cells #[.int .i64 0, .string ⟨#[]⟩, .int .i64 0, .bool false, .int .i64 0] 60)) := (Below.refl _ _).alloc (Nat.le_refl _) _
    go_wp2
    go_ret
    exact ⟨rfl, hP1.below ba, hb.trans (.of_below ba)⟩

set_option maxRecDepth 100000 in
set_option maxHeartbeats 1000000 in
/-- White is passed over; was there some? -/
theorem passWhite_any (n₀ R : Nat) (v : Value) (ts : List Bt) (a : Nat) (deep : Int) (w : World) (hP : Rd n₀ w R v ts a deep) :
    Calls Tryd.prog 36 #[.pointer (some ⟨R, 0, none⟩)] w fun e w' => ∃ b, e = .returned (.bool (decide (a < b))) ∧ a ≤ b ∧ b ≤ ts.length ∧ ts.drop b = dropW (ts.drop a) ∧ Rd n₀ w' R v ts b deep ∧ But R w w' := by
  have hlm := hP.most
  have hla := hP.least
  obtain ⟨⟨p0, p1, p2⟩, _⟩ := blk3 hP.blk
  have hR := hP.lt
  unfold dropW
  obtain ⟨G, hG⟩ : ∃ G, (ts.drop a).dropWhile (fun t => t.kind == 9) = G := ⟨_, rfl⟩
  rw [hG]
  go_enter Tryd.func36, Tryd.ntmps36
  go_wp2
  go_loopw [] (fun wr => ∃ b : Nat, a ≤ b ∧ b ≤ ts.length ∧ Hid ((ts.drop b).dropWhile (fun t => t.kind == 9) = G) ∧ Rd n₀ wr R v ts b deep ∧ But R w wr) (fun wr => ts.length - placeOf wr R)
  case atStart => exact ⟨a, Nat.le_refl _, hla, hG, hP, Kept.refl _ _⟩
  case round =>
    obtain ⟨b, hab, hbl, HG, hPb, hbut⟩ := hrel
    clear hP p0 p1 p2 hG
    have h1 := passes_any n₀ R v ts b deep 9 _ hPb (by decide)
    by_cases h9 : (at' ts b).kind = 9
    · have hlt : b < ts.length := at_lt (by rw [h9]; decide)
      have HG' : Hid ((ts.drop (b + 1)).dropWhile (fun t => t.kind == 9) = G) := by
        have h := HG
        unfold Hid at h ⊢
        rw [at_cons hlt, List.dropWhile_cons, if_pos (by rw [h9]; rfl)] at h
        exact h
      rw [decide_eq_true h9, if_pos h9] at h1
      clear HG
      go_wp2_with fail
      refine h1.mono ?_
      clear h1
      rintro e w1 ⟨rfl, hP1, hb1⟩
      go_wp2
      refine ⟨⟨b + 1, by omega, by omega, HG', hP1, hbut.trans hb1⟩, ?_⟩
      rw [hP1.place, hPb.place]
      omega
    · have hD : ts.drop b = G := by
        have h := HG
        unfold Hid at h
        by_cases hlt : b < ts.length
        · rw [at_cons hlt, List.dropWhile_cons, if_neg (by simpa using h9), ← at_cons hlt] at h
          exact h
        · rw [List.drop_eq_nil_of_le (by omega)] at h ⊢
          exact h
      rw [decide_eq_false h9, if_neg h9] at h1
      clear HG h9
      go_wp2_with fail
      refine h1.mono ?_
      clear h1
      rintro e w1 ⟨rfl, hP1, hb1⟩
      have hbut1 := hbut.trans hb1
      obtain ⟨⟨p0, p1, p2⟩, _⟩ := blk3 hP1.blk
      by_cases hgt : a < b
      · have hgi : (a : Int) < (b : Int) := by omega
        go_wp2
        go_ret
        exact ⟨b, by rw [decide_eq_true hgt]; rfl, hab, hbl, hD, hP1, hbut1⟩
      · have hgi : ¬ (a : Int) < (b : Int) := by omega
        go_wp2
        go_ret
        exact ⟨b, by rw [decide_eq_false hgt]; rfl, hab, hbl, hD, hP1, hbut1⟩

end Go.Proofs.YtlcedbjlcjnkfabDoor.Sl
