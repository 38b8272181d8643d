/- Chapter 19's law on rows of calls: the store, another one, the document's own; a call handed in. -/
import Derived.Test.YtiaomdlfccpcmaaStUse
import Derived.Test.YtiaomdlfccpcmaaStArgs
import Derived.Test.YtiaomdlfccpcmaaStRefC
namespace Go.Proofs.Ytiaomdlfccpcmaa.Sto
open Go Go.RowKit Sl

structure Tri (w : World) (c n : Nat) (ls lo lr : List He) (X : World) : Prop where
  main : Own w c n ls X
  other : Own w (c + 1) n lo X
  ref : RT w.heap.size X (c + 2) lr
  few : Few n lr
/-- A call's block is left as it was. -/
def KA (X Y : World) : Prop := ∀ A cs, Blk X A 37 cs → Blk Y A 37 cs
section
variable {w X Y : World} {c n : Nat} {ls lo lr : List He}
theorem Tri.next (h : Tri w c n ls lo lr X) (hb : Below X.heap.size X Y) : Tri w c n ls lo lr Y := ⟨h.main.next hb, h.other.next hb, h.ref.next hb, h.few⟩
theorem KA.next (hb : Below X.heap.size X Y) : KA X Y := fun _ _ h => Blk.below h hb (Blk.lt h)
theorem KA.drew : KA X X.drew := KA.next (below_drew (Below.refl _ _))
theorem KA.trans {Z : World} (h : KA X Y) (k : KA Y Z) : KA X Z := fun A cs e => k A cs (h A cs e)
theorem KA.chg {l : List He} {b : Nat} (h : ST X b l) (hc : Chg b X Y) : KA X Y := fun A cs e => by
  obtain ⟨p, hb, _⟩ := h
  refine (hc.block A (Blk.lt e) (fun e1 => ?_)).trans e
  subst e1
  have h1 : X.heap[A]? = _ := e
  rw [show X.heap[A]? = _ from hb] at h1
  cases h1
theorem KA.ref {n₀ b : Nat} {l : List He} (h : RT n₀ X b l) (hc : ChR n₀ b X Y) : KA X Y := fun A cs e => by
  obtain ⟨v, h⟩ := h
  have h1 : X.heap[A]? = _ := e
  refine (hc.block A (Blk.lt e) (fun e1 => ?_) (fun _ B e1 => ?_)).trans e
  · subst e1
    rw [show X.heap[A]? = _ from h.blk] at h1
    cases h1
  · rw [h1] at e1
    cases e1
theorem Tri.start (w X : World) (hb : Below w.heap.size w X) : Tri w X.heap.size 0 [] [] []
    (((X.alloc (.cells #[.pointer none, .int .i64 0, .int .i64 0] 28)).alloc (.cells #[.pointer none, .int .i64 0, .int .i64 0] 28)).alloc (.cells #[.slice none 0 0] 32)) := by
  have h0 := Own.start w X hb
  have h1 := Own.start w _ h0.below
  have hs := World.size_alloc X (.cells #[.pointer none, .int .i64 0, .int .i64 0] 28)
  have hs2 := World.size_alloc (X.alloc (.cells #[.pointer none, .int .i64 0, .int .i64 0] 28)) (.cells #[.pointer none, .int .i64 0, .int .i64 0] 28)
  have h2 := RT.new w.heap.size ((X.alloc (.cells #[.pointer none, .int .i64 0, .int .i64 0] 28)).alloc (.cells #[.pointer none, .int .i64 0, .int .i64 0] 28)) h1.below.size
  rw [hs] at h1
  rw [hs2, hs] at h2
  have q : ∀ (Z : World) (o : Obj), Below Z.heap.size Z (Z.alloc o) := fun Z o => (Below.refl _ _).alloc (Nat.le_refl _) _
  exact ⟨(h0.next (q _ _)).next (q _ _), h1.next (q _ _), h2, Few.nil 0⟩
theorem Tri.mainChg {m : Nat} {ls' : List He} (h : Tri w c n ls lo lr X) (hm : n ≤ m) (hs : Own w c m ls' Y) (hc : Chg c X Y) : Tri w c m ls' lo lr Y :=
  ⟨hs, ⟨h.other.at_.frame h.main.at_ (by omega) hc, h.other.few.mono hm, h.other.low, hs.below⟩, h.ref.chg h.main.at_ hc, h.few.mono hm⟩
theorem Tri.otherChg {m : Nat} {lo' : List He} (h : Tri w c n ls lo lr X) (hm : n ≤ m) (hs : Own w (c + 1) m lo' Y) (hc : Chg (c + 1) X Y) : Tri w c m ls lo' lr Y :=
  ⟨⟨h.main.at_.frame h.other.at_ (by omega) hc, h.main.few.mono hm, h.main.low, hs.below⟩, hs, h.ref.chg h.other.at_ hc, h.few.mono hm⟩
theorem Tri.refChg {m : Nat} {lr' : List He} (h : Tri w c n ls lo lr X) (hm : n ≤ m) (hr : RT w.heap.size Y (c + 2) lr') (hf : Few m lr') (hc : ChR w.heap.size (c + 2) X Y) : Tri w c m ls lo lr' Y :=
  have hb := h.main.below.trans (hc.below h.main.below.size (by have := h.main.low; omega) (Nat.le_refl _))
  ⟨⟨h.main.at_.ref h.ref hc, h.main.few.mono hm, h.main.low, hb⟩, ⟨h.other.at_.ref h.ref hc, h.other.few.mono hm, h.other.low, hb⟩, hr, hf⟩
theorem Tri.newo (h : Tri w c n ls lo lr X) (hn : n ≤ 1000) (s : Nat → Int) :
    Calls Try.prog 7 #[.pointer (some ⟨c + 1, 0, none⟩), sty s] X fun e w' => e = .returned (.int .i64 lo.length) ∧ Tri w c (n + 1) ls (newL lo s) lr w' := by
  refine Calls.mono (h.other.new hn s) ?_
  rintro e w' ⟨he, hs, hc⟩
  exact ⟨he, h.otherChg (by omega) hs hc⟩
theorem Tri.newm (h : Tri w c n ls lo lr X) (hn : n ≤ 1000) (s : Nat → Int) :
    Calls Try.prog 7 #[.pointer (some ⟨c, 0, none⟩), sty s] X fun e w' => e = .returned (.int .i64 ls.length) ∧ Tri w c (n + 1) (newL ls s) lo lr w' ∧ KA X w' := by
  refine Calls.mono (h.main.new hn s) ?_
  rintro e w' ⟨he, hs, hc⟩
  exact ⟨he, h.mainChg (by omega) hs hc, .chg h.main.at_ hc⟩
theorem Tri.newr (h : Tri w c n ls lo lr X) (hn : n ≤ 1000) (s : Nat → Int) :
    Calls Try.prog 8 #[.pointer (some ⟨c + 2, 0, none⟩), sty s] X fun e w' => e = .returned (.int .i64 lr.length) ∧ Tri w c (n + 1) ls lo (newL lr s) w' ∧ KA X w' := by
  refine Calls.mono (refNew_any w.heap.size (c + 2) lr s X (by have := h.few.len; omega) h.ref) ?_
  rintro e w' ⟨he, hs, hc⟩
  exact ⟨he, h.refChg (by omega) hs (h.few.new s) hc, .ref h.ref hc⟩
theorem Tri.holdm (h : Tri w c n ls lo lr X) (hn : n ≤ 1000) {i : Int} (hi : i ≤ 9223372036854775807) :
    Calls Try.prog 10 #[.pointer (some ⟨c, 0, none⟩), .int .i64 i] X fun e w' => e = .returned (.int .i64 (addR ls i)) ∧ Tri w c (n + 1) (addL ls i 1) lo lr w' ∧ KA X w' := by
  refine Calls.mono (h.main.hold hn hi) ?_
  rintro e w' ⟨he, hs, hc⟩
  exact ⟨he, h.mainChg (by omega) hs hc, .chg h.main.at_ hc⟩
theorem Tri.holdr (h : Tri w c n ls lo lr X) (hn : n ≤ 1000) {i : Int} (hi : i ≤ 9223372036854775807) :
    Calls Try.prog 11 #[.pointer (some ⟨c + 2, 0, none⟩), .int .i64 i] X fun e w' => e = .returned (.int .i64 (addR lr i)) ∧ Tri w c (n + 1) ls lo (addL lr i 1) w' ∧ KA X w' := by
  refine Calls.mono (refHold_any w.heap.size (c + 2) n lr i X (by omega) h.few hi h.ref) ?_
  rintro e w' ⟨he, hs, hc⟩
  exact ⟨he, h.refChg (by omega) hs (h.few.add i (.inl rfl)) hc, .ref h.ref hc⟩
theorem Tri.relm (h : Tri w c n ls lo lr X) (hn : n ≤ 1000) {i : Int} (hi : i ≤ 9223372036854775807) :
    Calls Try.prog 12 #[.pointer (some ⟨c, 0, none⟩), .int .i64 i] X fun e w' => e = .returned (.int .i64 (addR ls i)) ∧ Tri w c (n + 1) (addL ls i (-1)) lo lr w' ∧ KA X w' := by
  refine Calls.mono (h.main.release hn hi) ?_
  rintro e w' ⟨he, hs, hc⟩
  exact ⟨he, h.mainChg (by omega) hs hc, .chg h.main.at_ hc⟩
theorem Tri.relr (h : Tri w c n ls lo lr X) (hn : n ≤ 1000) {i : Int} (hi : i ≤ 9223372036854775807) :
    Calls Try.prog 13 #[.pointer (some ⟨c + 2, 0, none⟩), .int .i64 i] X fun e w' => e = .returned (.int .i64 (addR lr i)) ∧ Tri w c (n + 1) ls lo (addL lr i (-1)) w' ∧ KA X w' := by
  refine Calls.mono (refRelease_any w.heap.size (c + 2) n lr i X (by omega) h.few hi h.ref) ?_
  rintro e w' ⟨he, hs, hc⟩
  exact ⟨he, h.refChg (by omega) hs (h.few.add i (.inr rfl)) hc, .ref h.ref hc⟩
theorem Tri.getm (h : Tri w c n ls lo lr X) {i : Int} (hi : i ≤ 9223372036854775807) :
    Calls Try.prog 14 #[.pointer (some ⟨c, 0, none⟩), .int .i64 i] X fun e w' => e = .returned (.tuple #[sty (getV ls i).1, .int .i64 (getV ls i).2]) ∧ Tri w c n ls lo lr w' ∧ Below X.heap.size X w' := by
  refine Calls.mono (h.main.get hi) ?_
  rintro e w' ⟨he, _, hb⟩
  exact ⟨he, h.next hb, hb⟩
theorem Tri.getr (h : Tri w c n ls lo lr X) {i : Int} (hi : i ≤ 9223372036854775807) :
    Calls Try.prog 15 #[.pointer (some ⟨c + 2, 0, none⟩), .int .i64 i] X fun e w' => e = .returned (.tuple #[sty (getV lr i).1, .int .i64 (getV lr i).2]) ∧ Tri w c n ls lo lr w' ∧ Below X.heap.size X w' := by
  refine Calls.mono (refGet_any w.heap.size (c + 2) n lr i X h.few hi h.ref) ?_
  rintro e w' ⟨he, hb⟩
  exact ⟨he, h.next hb, hb⟩
theorem Tri.countm (h : Tri w c n ls lo lr X) {i : Int} (hi : i ≤ 9223372036854775807) :
    Calls Try.prog 16 #[.pointer (some ⟨c, 0, none⟩), .int .i64 i] X fun e w' => e = .returned (.int .i64 (cntV ls i)) ∧ Tri w c n ls lo lr w' ∧ KA X w' := by
  refine Calls.mono (h.main.count hi) ?_
  rintro e w' ⟨he, _, hb⟩
  exact ⟨he, h.next hb, .next hb⟩
theorem Tri.countr (h : Tri w c n ls lo lr X) {i : Int} (hi : i ≤ 9223372036854775807) :
    Calls Try.prog 17 #[.pointer (some ⟨c + 2, 0, none⟩), .int .i64 i] X fun e w' => e = .returned (.int .i64 (cntV lr i)) ∧ w' = X :=
  refCount_any w.heap.size (c + 2) n lr i X h.few hi h.ref
theorem Tri.livem (h : Tri w c n ls lo lr X) :
    Calls Try.prog 18 #[.pointer (some ⟨c, 0, none⟩)] X fun e w' => e = .returned (.int .i64 (liveN ls)) ∧ w' = X := h.main.live
theorem Tri.liver (h : Tri w c n ls lo lr X) (hn : n ≤ 1000) :
    Calls Try.prog 19 #[.pointer (some ⟨c + 2, 0, none⟩)] X fun e w' => e = .returned (.int .i64 (liveN lr)) ∧ w' = X :=
  refLive_any w.heap.size (c + 2) n lr X (by omega) h.few h.ref
theorem Tri.counts (h : Tri w c n ls lo ls X) {i : Int} (hi : i ≤ 9223372036854775807) : ∃ C : Int,
    Calls Try.prog 16 #[.pointer (some ⟨c, 0, none⟩), .int .i64 i] X fun e w' => e = .returned (.int .i64 C) ∧ (Tri w c n ls lo ls w' ∧ KA X w') ∧
      Calls Try.prog 17 #[.pointer (some ⟨c + 2, 0, none⟩), .int .i64 i] w' fun e w2 => e = .returned (.int .i64 C) ∧ w2 = w' := by
  refine ⟨cntV ls i, Calls.mono (h.countm hi) ?_⟩
  rintro e w' ⟨he, hs, hk⟩
  exact ⟨he, ⟨hs, hk⟩, hs.countr hi⟩
theorem Tri.lives (h : Tri w c n ls lo ls X) (hn : n ≤ 1000) : ∃ C : Nat,
    (Calls Try.prog 18 #[.pointer (some ⟨c, 0, none⟩)] X fun e w' => e = .returned (.int .i64 C) ∧ w' = X) ∧
      Calls Try.prog 19 #[.pointer (some ⟨c + 2, 0, none⟩)] X fun e w' => e = .returned (.int .i64 C) ∧ w' = X := ⟨_, h.livem, h.liver hn⟩
theorem Tri.mono {m : Nat} (h : Tri w c n ls lo lr X) (hm : n ≤ m) : Tri w c m ls lo lr X := ⟨h.main.mono hm, h.other.mono hm, h.ref, h.few.mono hm⟩
theorem Tri.drew (h : Tri w c n ls lo lr X) : Tri w c n ls lo lr X.drew := h.next (below_drew (Below.refl _ _))
end
/-- A call in block A. -/
def CaAt (X : World) (A : Nat) (r : Ca) : Prop := Blk X A 37 (.int .i64 r.1 :: .int .i64 r.2.1 :: styL r.2.2)
section
variable {X Y : World} {A : Nat} {r : Ca}
theorem CaAt.kept (h : CaAt X A r) (k : KA X Y) : CaAt Y A r := k A _ h
theorem CaAt.one (h : CaAt X A r) : X.cell? ⟨A, 1, none⟩ = some (.int .i64 r.2.1) := blk_cell h rfl
theorem CaAt.way (h : CaAt X A r) : X.cell? ⟨A, 0, none⟩ = some (.int .i64 r.1) := blk_cell h rfl
theorem CaAt.sty (h : CaAt X A r) : X.cell? ⟨A, 2, none⟩ = some (.int .i64 (r.2.2 0)) ∧ X.cell? ⟨A, 3, none⟩ = some (.int .i64 (r.2.2 1)) ∧ X.cell? ⟨A, 4, none⟩ = some (.int .i64 (r.2.2 2)) ∧ X.cell? ⟨A, 5, none⟩ = some (.int .i64 (r.2.2 3)) ∧ X.cell? ⟨A, 6, none⟩ = some (.int .i64 (r.2.2 4)) ∧ X.cell? ⟨A, 7, none⟩ = some (.int .i64 (r.2.2 5)) ∧ X.cell? ⟨A, 8, none⟩ = some (.int .i64 (r.2.2 6)) ∧ X.cell? ⟨A, 9, none⟩ = some (.int .i64 (r.2.2 7)) :=
  ⟨blk_cell h rfl, blk_cell h rfl, blk_cell h rfl, blk_cell h rfl, blk_cell h rfl, blk_cell h rfl, blk_cell h rfl, blk_cell h rfl⟩
end

end Go.Proofs.Ytiaomdlfccpcmaa.Sto
