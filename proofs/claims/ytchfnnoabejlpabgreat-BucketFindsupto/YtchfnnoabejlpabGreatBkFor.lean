/- package bucket: bucketsFor and For, at every node. -/
import Derived.Test.YtchfnnoabejlpabGreatBkB
import Derived.Test.YtchfnnoabejlpabGreatBkA
namespace Go.Proofs.YtchfnnoabejlpabGreat.Bk
open Go.Proofs.YtchfnnoabejlpabGreat.Tre
open Go Go.RowKit Go.Shelf Sl Wg

/-- What is asked of a node's names. -/
structure Nn where
  tag : ByteArray
  id : ByteArray
  cls : List ByteArray
def Nn.ok (n : Nn) : Prop := n.tag.size ≤ maxLen ∧ n.id.size ≤ maxLen ∧ (∀ c ∈ n.cls, c.size ≤ maxLen) ∧ n.cls.length ≤ 100
/-- The buckets of a node, in plain words. -/
def bktsV (n : Nn) : List Bkt := [(0, ⟨#[]⟩), (1, n.tag)] ++ (if n.id = ⟨#[]⟩ then [] else [(3, n.id)]) ++ n.cls.map (fun c => (2, c))
def bkCells (b : Bkt) : List Value := [.int .u8 b.1, .string b.2]
theorem infoBk3 : (Tryz.prog.info? 65).map (fun i => (i.zero, i.size, i.bytes)) = some (some (.agg #[.int .u8 0, .string ⟨#[]⟩]), 2, 24) := by kernel_rfl
theorem bks_len (l : List Bkt) : (l.flatMap bkCells).length = l.length * 2 := by
  induction l with
  | nil => rfl
  | cons b l ih => simp [List.flatMap_cons, bkCells, ih]; omega
theorem bks_get : ∀ (l : List Bkt) (k : Nat) (b : Bkt), l[k]? = some b → (l.flatMap bkCells)[k * 2]? = some (.int .u8 b.1) ∧ (l.flatMap bkCells)[k * 2 + 1]? = some (.string b.2)
  | [], k, b, h => by simp at h
  | a :: l, 0, b, h => by
    obtain rfl : a = b := by simpa using h
    exact ⟨rfl, rfl⟩
  | a :: l, k + 1, b, h => by
    have ih := bks_get l k b (by simpa using h)
    rw [show (k + 1) * 2 = k * 2 + 2 by omega, show k * 2 + 2 + 1 = (k * 2 + 1) + 2 by omega]
    exact ih
/-- A row of buckets. -/
abbrev BksRow (base : Nat) (W : World) (v : Value) (l : List Bkt) : Prop := W.ownsRow base 65 2 v l.length (l.flatMap bkCells)
theorem bks_app (l : List Bkt) (b : Bkt) : l.flatMap bkCells ++ [.int .u8 b.1, .string b.2] = (l ++ [b]).flatMap bkCells := by simp [List.flatMap_append, bkCells]
theorem cell_two_new (w : World) (x y : Value) (t : TypeId) : ∀ j u, [x, y][j]? = some u → (w.alloc (.cells #[x, y] t)).cell? ((⟨w.heap.size, 0, none⟩ : Addr).add j) = some u := by
  intro j u hj
  rw [addr0]
  match j, hj with
  | 0, hj => simp at hj; subst hj; simp
  | 1, hj => simp at hj; subst hj; simp
  | j + 2, hj => simp at hj

set_option maxRecDepth 100000 in
set_option maxHeartbeats 600000 in
theorem bucketsFor_any (n : Nn) (par : Int) (cv av : Value) (w : World) (hn : n.ok) (hc : RowT 1 StrC w.heap.size w cv n.cls) (hav : ∃ p m c, av = .slice p m c) :
    Calls Tryz.prog 17 #[.agg #[.int .i64 par, .string n.tag, .string n.id, cv, av]] w fun e w' => ∃ v l, e = .returned v ∧ BksRow w.heap.size w' v l ∧ (∀ b, b ∈ l ↔ b ∈ bktsV n) ∧ l.length ≤ 103 ∧ Below w.heap.size w w' := by
  obtain ⟨i0, hi, hz0, hz1, hz2⟩ := info_of infoBk3
  obtain ⟨pa, ma, ca, rfl⟩ := hav
  obtain ⟨q, cap, rfl⟩ := RowT.len hc
  obtain ⟨w1, hw1⟩ : ∃ w1, w.alloc (.cells #[.int .i64 par, .string n.tag, .string n.id, .slice q n.cls.length cap, .slice pa ma ca] 37) = w1 := ⟨_, rfl⟩
  have b1 : Below w.heap.size w w1 := by rw [← hw1]; exact (Below.refl _ _).alloc (Nat.le_refl _) _
  have k1 : Blk w1 w.heap.size 37 [.int .i64 par, .string n.tag, .string n.id, .slice q n.cls.length cap, .slice pa ma ca] := by rw [← hw1]; exact Blk.new w 37 _
  have s1 : w1.heap.size = w.heap.size + 1 := by rw [← hw1]; exact World.size_alloc _ _
  obtain ⟨w2, hw2⟩ : ∃ w2, w1.alloc (.cells #[.int .u8 0, .string ⟨#[]⟩, .int .u8 1, .string n.tag] 65) = w2 := ⟨_, rfl⟩
  have b2 : Below w1.heap.size w1 w2 := by rw [← hw2]; exact (Below.refl _ _).alloc (Nat.le_refl _) _
  have r2 : BksRow (w.heap.size + 1) w2 (.slice (some ⟨w1.heap.size, 0, none⟩) 2 2) [(0, ⟨#[]⟩), (1, n.tag)] := by
    rw [← hw2]
    exact ⟨rfl, .inr ⟨w1.heap.size, 2, _, rfl, by omega, heap_alloc_new w1 _, Nat.le_refl _, by decide, rfl, rfl⟩⟩
  have k2 := k1.below b2 k1.lt
  have B2 := below_next b1 b2
  obtain ⟨⟨c0, c1, c2, c3, c4⟩, _⟩ := blk5 k1
  obtain ⟨⟨d0, d1, d2, d3, d4⟩, _⟩ := blk5 k2
  have HC : Hid (RowT 1 StrC w.heap.size w (.slice q n.cls.length cap) n.cls) := hc
  clear hc k1
  go_enter Tryz.func17, Tryz.ntmps17
  go_upto_region 2 with fail
  first | rw [hw1] | skip
  first | rw [hw2] | skip
  clear c0 c1 c2 c3 c4 hw2
  have HR2 : Hid (BksRow (w.heap.size + 1) w2 (.slice (some ⟨w1.heap.size, 0, none⟩) 2 2) [(0, ⟨#[]⟩), (1, n.tag)]) := r2
  have HK2 : Hid (Blk w2 w.heap.size 37 [.int .i64 par, .string n.tag, .string n.id, .slice q n.cls.length cap, .slice pa ma ca]) := k2
  clear r2 k2
  go_upto_if 13 with fail
  obtain ⟨l1, hl1⟩ : ∃ l1 : List Bkt, [(0, ⟨#[]⟩), (1, n.tag)] ++ (if n.id = ⟨#[]⟩ then [] else [(3, n.id)]) = l1 := ⟨_, rfl⟩
  have HL1 : Hid ([(0, ⟨#[]⟩), (1, n.tag)] ++ (if n.id = ⟨#[]⟩ then [] else [(3, n.id)]) = l1) := hl1
  clear hl1
  go_cut [3] (fun x wx => BksRow (w.heap.size + 1) wx x l1 ∧ Blk wx w.heap.size 37 [.int .i64 par, .string n.tag, .string n.id, .slice q n.cls.length cap, .slice pa ma ca] ∧ Below w.heap.size w wx)
  case first =>
    by_cases ht : n.id = ⟨#[]⟩
    · have e1 : [(0, ⟨#[]⟩), (1, n.tag)] = l1 := by rw [← HL1.out, if_pos ht]; rfl
      have hemp : n.id.toList.isEmpty = true := by rw [ht, ByteArray.toList_eq]; rfl
      have FIN : Hid (BksRow (w.heap.size + 1) w2 (.slice (some ⟨w.heap.size + 1, 0, none⟩) 2 2) l1 ∧ Blk w2 w.heap.size 37 [.int .i64 par, .string n.tag, .string n.id, .slice q n.cls.length cap, .slice pa ma ca] ∧ Below w.heap.size w w2) := ⟨by rw [← e1, ← s1]; rw [s1]; have := HR2.out; rw [s1] at this; exact this, HK2.out, B2⟩
      rw [show (!n.id.toList.isEmpty) = false by rw [hemp]; rfl]
      clear ht e1 hemp
      go_wp2
      go_meet
      exact FIN.out
    · have e1 : [(0, ⟨#[]⟩), (1, n.tag)] ++ [(3, n.id)] = l1 := by rw [← HL1.out, if_neg ht]
      have hemp : n.id.toList.isEmpty = false := by have := bytes_ne ht; cases h : n.id.toList with
        | nil => rw [h] at this; cases this
        | cons a l => rfl
      have hr2 := HR2.out
      rw [s1] at hr2
      rw [show (!n.id.toList.isEmpty) = true by rw [hemp]; rfl]
      clear ht hemp
      go_wp2_with (at_builtin; refine wpList_append_own_at _ rfl _ _ 61 rfl (w.heap.size + 1) 65 i0 (.agg #[.int .u8 0, .string ⟨#[]⟩]) 2 24 Tryz.underlying61 hi hz0 hz1 hz2 rfl (by decide) _ 2 _ rfl (hr2.alloc _) ⟨w2.heap.size, 0, none⟩ 1 1 [.int .u8 3, .string n.id] rfl rfl (cell_two_new _ _ _ _) (by simp [Value.oneCell']) (by unfold maxLen; omega) (by omega) (by simp; have := b2.size; omega) ?_; intro v' w3 hown3 hgrow3 hnil3 hat3)
      go_meet
      have ha := (Below.refl w2.heap.size w2).alloc (Nat.le_refl _) (.cells #[.int .u8 3, .string n.id] 65)
      refine ⟨?_, ((HK2.out.below ha HK2.out.lt).kept hgrow3 (fun e => by have := (owns_lt hr2 e.symm).1; omega)), ((below_next B2 ha).grown hgrow3 (by have := B2.size; have := ha.size; omega) (fun r e => by have := (owns_lt hr2 e).1; omega))⟩
      rw [← e1]
      exact hown3
  case rest =>
  clear d0 d1 d2 d3 d4 HR2 HK2
  obtain ⟨hr3, hk3, hb3⟩ := hcut
  obtain ⟨po, co, rfl⟩ := owns_form hr3
  have hl3 : l1.length ≤ 3 := by
    rw [← HL1.out]
    split <;> simp
  obtain ⟨⟨d0, d1, d2, d3, d4⟩, _⟩ := blk5 hk3
  have s3 : w.heap.size < wc.heap.size := hk3.lt
  have hva := values_any (.slice q n.cls.length cap) wc rfl
  obtain ⟨w4, hw4⟩ : ∃ w4, wc.alloc (.cells #[.slice q n.cls.length cap] 34) = w4 := ⟨_, rfl⟩
  rw [hw4] at hva
  have b4 : Below wc.heap.size wc w4 := by rw [← hw4]; exact (Below.refl _ _).alloc (Nat.le_refl _) _
  have k4 : Blk w4 wc.heap.size 34 [.slice q n.cls.length cap] := by rw [← hw4]; exact Blk.new wc 34 _
  have s4 : w4.heap.size = wc.heap.size + 1 := by rw [← hw4]; exact World.size_alloc _ _
  have hB4 := below_next hb3 b4
  have hso := sorted_any (wc.heap.size + 1) 52 #[.pointer (some ⟨wc.heap.size, 0, none⟩)] n.cls w4 (by omega) (by have := hn.2.2.2; omega) egVal
    (values_seq 1 wc.heap.size (wc.heap.size + 1) (.slice q n.cls.length cap) n.cls w4 (by omega) (by omega) (blk1 k4).1 ((HC.out.below hB4 (T' := StrC) (fun _ _ h => h)).mono (by omega) (fun _ _ h => h)))
  have HR3 : Hid (BksRow (w.heap.size + 1) wc (.slice po l1.length co) l1) := hr3
  clear hr3 hk3 k4 hw4
  go_wp2_with fail
  refine hva.mono ?_
  clear hva
  rintro e w4' ⟨rfl, rfl⟩
  go_wp2_with fail
  refine hso.mono ?_
  clear hso
  rintro e w5 ⟨sv, sl, rfl, h5, hm5, hl5, b5⟩
  have hco := compactS_any w4'.heap.size sv sl w5 h5 b5.size (by have := hn.2.2.2; omega)
  obtain ⟨sq, sc, rfl⟩ := owns_form h5
  have HL5 : Hid (sl.length = n.cls.length) := hl5
  have HM5 : Hid (∀ x, x ∈ sl ↔ x ∈ btL n.cls) := hm5
  clear h5 hl5 hm5
  go_wp2_with fail
  refine hco.mono ?_
  clear hco
  rintro e w6 ⟨tv, rfl, h6, b6⟩
  have hB6 : Below w4'.heap.size w4' w6 := b5.trans b6
  obtain ⟨ts, hts⟩ : ∃ ts, Lib.compact sl = ts := ⟨_, rfl⟩
  have hle := Lib.compact_length_le sl
  have hmm : ∀ x, x ∈ btB ts ↔ x ∈ n.cls := btB_mem (fun x => by rw [← hts, compact_mem']; exact HM5.out x)
  rw [hts] at h6 hle
  rw [btB_enc] at h6
  have hlt : (btB ts).length = ts.length := by simp [btB]
  rw [← hlt] at h6 hle
  generalize btB ts = bs at *
  obtain ⟨tq, tc, rfl⟩ := owns_form h6
  have hbl : bs.length ≤ 100 := by have := hn.2.2.2; have := HL5.out; omega
  obtain ⟨gs, hgs, hgl, hgne⟩ : ∃ gs, (∀ k x, bs[k]? = some x → tq = some ⟨gs, 0, none⟩ ∧ w6.cell? ⟨gs, k, none⟩ = some (.string x) ∧ bs.length ≤ tc ∧ tc ≤ 9223372036854775807) ∧ gs < w6.heap.size ∧ (Value.slice po l1.length co).ownBlock ≠ some gs := by
    rcases h6.2 with ⟨e, hz⟩ | ⟨g, cp, cur, e, hg, hb, hn1, hm1, _⟩
    · refine ⟨w.heap.size, fun k x hk => ?_, by have := hB6.size; omega, fun e' => ?_⟩
      · rw [List.eq_nil_of_length_eq_zero hz] at hk; simp at hk
      · have := (owns_lt HR3.out e').1; omega
    · cases e
      refine ⟨g, fun k x hk => ⟨rfl, ?_, hn1, by unfold maxLen at hm1; omega⟩, (Array.getElem?_eq_some_iff.1 hb).1, fun e' => ?_⟩
      · have := h6.cells (g := g) rfl k (.string x) (by simp [hk])
        rw [addr0] at this
        exact this
      · have := (owns_lt HR3.out e').2; omega
  have r6 : BksRow (w.heap.size + 1) w6 (.slice po l1.length co) (l1 ++ (bs.take 0).map (fun c => (2, c))) := by
    rw [List.take_zero, List.map_nil, List.append_nil]
    exact owns_same HR3.out (fun g hg => ((below_next b4 hB6).block g (owns_lt HR3.out hg).2))
  have B6 : Below w.heap.size w w6 := below_next hB4 hB6
  have HG : Hid (∀ k x, bs[k]? = some x → tq = some ⟨gs, 0, none⟩ ∧ w6.cell? ⟨gs, k, none⟩ = some (.string x) ∧ bs.length ≤ tc ∧ tc ≤ 9223372036854775807) := hgs
  have HM : Hid (∀ x, x ∈ bs ↔ x ∈ n.cls) := hmm
  clear hgs hmm h6 HM5 HL5 b5 b6 hB6 hB4 b4 HR3 s4 d0 d1 d2 d3 d4 hts hle hlt
  go_wp2_with fail
  go_loopw [3, 26] (fun v x wr => ∃ k : Nat, x = .int .i64 k ∧ k ≤ bs.length ∧ BksRow (w.heap.size + 1) wr v (l1 ++ (bs.take k).map (fun c => (2, c))) ∧ v.ownBlock ≠ some gs ∧ wr.heap[gs]? = w6.heap[gs]? ∧ gs < wr.heap.size ∧ Below w.heap.size w wr) (fun _ x _ => bs.length - (intOf x).toNat)
  case atStart => exact ⟨0, rfl, Nat.zero_le _, r6, hgne, rfl, hgl, B6⟩
  case round =>
    clear r6 B6 hgne
    obtain ⟨k, rfl, hk, hr, hgn, hgh, hgl', hb⟩ := hrel
    obtain ⟨pk, ck, rfl⟩ := owns_form hr
    by_cases hlt : k < bs.length
    · have hki : (k : Int) < (bs.length : Int) := by omega
      obtain ⟨x, hx⟩ : ∃ x, bs[k]? = some x := ⟨_, List.getElem?_eq_getElem hlt⟩
      obtain ⟨rfl, y0, hc1, hc2⟩ := HG.out k x hx
      have y1 : wr.cell? ⟨gs, k, none⟩ = some (.string x) := (cell_same hgh).trans y0
      have hN : (l1 ++ (bs.take k).map (fun c => ((2 : Nat), c))).length ≤ 102 := by simp; omega
      have hnx : (l1 ++ (bs.take k).map (fun c => ((2 : Nat), c))) ++ [(2, x)] = l1 ++ (bs.take (k + 1)).map (fun c => (2, c)) := by
        obtain ⟨hk', rfl⟩ := List.getElem?_eq_some_iff.1 hx
        rw [List.take_succ_eq_append_getElem hk', List.map_append, List.append_assoc]
        rfl
      have HNX : Hid (_ = _) := hnx
      have hsz := hb.size
      generalize hLL : l1 ++ (bs.take k).map (fun c => ((2 : Nat), c)) = LL at *
      have hr' : BksRow (w.heap.size + 1) wr (.slice pk LL.length ck) LL := hr
      clear hLL hnx hx y0
      obtain ⟨NL, hNL⟩ : ∃ NL, LL.length = NL := ⟨_, rfl⟩
      unfold BksRow at hr
      rw [hNL] at hr hN hr' hgn ⊢
      go_wp2_with (at_builtin; refine wpList_append_own_at _ rfl _ _ 61 rfl (w.heap.size + 1) 65 i0 (.agg #[.int .u8 0, .string ⟨#[]⟩]) 2 24 Tryz.underlying61 hi hz0 hz1 hz2 rfl (by decide) (.slice pk NL ck) NL _ rfl (hr.alloc _) ⟨wr.heap.size, 0, none⟩ 1 1 [.int .u8 2, .string x] rfl rfl (cell_two_new _ _ _ _) (by simp [Value.oneCell']) (by unfold maxLen; omega) (by omega) (by simp; omega) ?_; intro v' w3 hown3 hgrow3 hnil3 hat3)
      go_roundw
      case rel =>
        have ha := (Below.refl wr.heap.size wr).alloc (Nat.le_refl _) (.cells #[.int .u8 2, .string x] 65)
        have hs3 : wr.heap.size + 1 ≤ w3.heap.size := by have := hgrow3.size; rwa [World.size_alloc] at this
        refine ⟨k + 1, by go_num, by omega, ?_, ?_, ?_, by omega, ((below_next hb ha).grown hgrow3 (by simp; omega) (fun r e => by have := (owns_lt hr e).1; omega))⟩
        · rw [← HNX.out]
          unfold BksRow
          rw [← bks_app, List.length_append, List.length_singleton, hNL]
          exact hown3
        · rcases hat3 with e | e
          · rw [e]; exact hgn
          · rw [e, World.size_alloc]; intro e'; cases e'; omega
        · exact (hgrow3.block gs (by simp; omega) (fun e => hgn e.symm)).trans ((ha.block gs hgl').trans hgh)
      case measure => simp [intOf]; omega
    · have hki : ¬ (k : Int) < (bs.length : Int) := by omega
      rw [show bs.take k = bs from List.take_of_length_le (by omega)] at hr ⊢
      have FIN : Hid (BksRow w.heap.size wr (.slice pk (l1 ++ bs.map (fun c => ((2 : Nat), c))).length ck) (l1 ++ bs.map (fun c => (2, c))) ∧ (∀ b, b ∈ l1 ++ bs.map (fun c => (2, c)) ↔ b ∈ bktsV n) ∧ (l1 ++ bs.map (fun c => ((2 : Nat), c))).length ≤ 103 ∧ Below w.heap.size w wr) := by
        refine ⟨?_, fun b => ?_, by simp; omega, hb⟩
        · refine ⟨hr.1, ?_⟩
          rcases hr.2 with h | ⟨g, cp, cur, h, hg, h'⟩
          · exact .inl h
          · exact .inr ⟨g, cp, cur, h, by omega, h'⟩
        · unfold bktsV
          rw [HL1.out, List.mem_append, List.mem_append, List.mem_map, List.mem_map]
          constructor
          · rintro (h | ⟨c, hc, rfl⟩)
            · exact .inl h
            · exact .inr ⟨c, (HM.out c).1 hc, rfl⟩
          · rintro (h | ⟨c, hc, rfl⟩)
            · exact .inl h
            · exact .inr ⟨c, (HM.out c).2 hc, rfl⟩
      clear hr
      generalize l1 ++ bs.map (fun c => ((2 : Nat), c)) = LL at *
      go_wp2
      go_ret
      exact ⟨.slice pk LL.length ck, rfl, LL, FIN.out.1, fun a b => FIN.out.2.1 (a, b), FIN.out.2.2⟩

/-! ### For -/
def ints (l : List Nat) : List Int := l.map (fun x : Nat => (x : Int))
theorem ints_nats (l : List Nat) : (ints l).map (Value.int .i64) = nats l := by simp [ints, nats]
theorem forV_same (l : List Rl) {bs cs : List Bkt} (h : ∀ b, b ∈ bs ↔ b ∈ cs) : forV l bs = forV l cs := by
  have hh : ∀ r, hitB bs r = hitB cs r := fun r => by
    rw [Bool.eq_iff_iff]
    unfold hitB
    rw [List.any_eq_true, List.any_eq_true]
    exact ⟨fun ⟨b, h1, h2⟩ => ⟨b, (h b).1 h1, h2⟩, fun ⟨b, h1, h2⟩ => ⟨b, (h b).2 h1, h2⟩⟩
  have : ∀ (l : List Rl) (i : Nat), hitsAt bs i l = hitsAt cs i l := fun l => by
    induction l with
    | nil => intro i; rfl
    | cons r l ih => intro i; unfold hitsAt; rw [hh r, ih (i + 1)]
  exact this l 0
theorem bktsV_ok {n : Nn} (h : n.ok) {b : Bkt} (hb : b ∈ bktsV n) : OkB b := by
  unfold bktsV at hb
  rw [List.mem_append, List.mem_append] at hb
  rcases hb with (hb | hb) | hb
  · simp only [List.mem_cons, List.not_mem_nil, or_false] at hb
    rcases hb with rfl | rfl
    · exact ⟨by decide, by decide⟩
    · exact ⟨by show 1 < 256; omega, h.1⟩
  · split at hb
    · cases hb
    · rw [List.mem_singleton] at hb
      subst hb
      exact ⟨by show 3 < 256; omega, h.2.1⟩
  · obtain ⟨c, hc, rfl⟩ := List.mem_map.1 hb
    exact ⟨by show 2 < 256; omega, h.2.2.1 c hc⟩
theorem nats_cat (a b : List Nat) : nats a ++ nats b = nats (a ++ b) := by simp [nats]
/-- append(dst, src...) in a region that draws: from a row that is read. -/
theorem append_rows {W : World} {base : Nat} {v x : Value} {a b : List Nat} (h : W.ownsRow base 3 1 v a.length (nats a)) (base' : Nat) (hx : W.ownsRow base' 3 1 x b.length (nats b)) (hl : a.length + b.length ≤ 1099511627776) (hb : base ≤ W.heap.size) :
    ∃ v' W', (Builtin.append_ #[32, 32] 32 #[v, x]).run Tryz.prog W = .ok v' W' ∧ W'.ownsRow base 3 1 v' (a ++ b).length (nats (a ++ b)) ∧ W.grownBy W' v.ownBlock ∧ (v'.ownBlock = v.ownBlock ∨ v'.ownBlock = some W.heap.size) := by
  obtain ⟨i0, hi, hz0, hz1, hz2⟩ := info_of infoI
  rcases hx.2 with ⟨rfl, hn⟩ | ⟨g, cap, cur, rfl, hg⟩
  · obtain rfl : b = [] := List.eq_nil_of_length_eq_zero hn
    refine ⟨v, W, ?_, by rw [List.append_nil]; exact h, World.grownBy.refl _ _, .inl rfl⟩
    exact run_append_owned_none (P := Tryz.prog) W base 32 32 3 i0 1 Tryz.underlying32 hi _ a.length (nats a) h
  · obtain ⟨v', W', h1, h2, h3, _, h5⟩ := run_append_own_at (P := Tryz.prog) W base 32 32 3 i0 (.int .i64 0) 1 8 Tryz.underlying32 hi hz0 hz1 hz2 rfl (by decide) v a.length (nats a) h ⟨g, 0, none⟩ b.length cap (nats b) (by simp [nats]) (hx.cells (g := g) rfl)
      (by intro u hu; obtain ⟨z, _, rfl⟩ := List.mem_map.1 hu; simp [Value.oneCell']) (by unfold maxLen; omega) (by omega) hb
    exact ⟨v', W', h1, by rw [nats_cat, ← List.length_append] at h2; exact h2, h3, h5⟩
/-- What For tells of a node. -/
def NodeAt (n : Nn) (W : World) (v : Value) : Prop := ∃ par cv av, v = .agg #[.int .i64 par, .string n.tag, .string n.id, cv, av] ∧ RowT 1 StrC W.heap.size W cv n.cls ∧ ∃ p m c, av = .slice p m c
theorem NodeAt.next {n : Nn} {W X : World} {v : Value} (h : NodeAt n W v) (hb : Below W.heap.size W X) : NodeAt n X v := by
  obtain ⟨par, cv, av, e, h1, h2⟩ := h
  exact ⟨par, cv, av, e, (h1.below hb (fun _ _ h => h)).mono hb.size (fun _ _ h => h), h2⟩

set_option maxRecDepth 100000 in
set_option maxHeartbeats 1000000 in
theorem for_any (n₀ : Nat) (W : World) (tb : Nat) (l : List Rl) (st c : Nat) (h : MapIn n₀ W tb (newFm l) st c) (hc : c ≤ 10000000000) (n : Nn) (hn : n.ok) (v : Value) (hv : NodeAt n W v) :
    Calls Tryz.prog 9 #[.pointer (some ⟨tb, 0, none⟩), v] W fun e W' => ∃ x, e = .returned x ∧ W'.ownsRow W.heap.size 3 1 x (forV l (bktsV n)).length (nats (forV l (bktsV n))) ∧ Below W.heap.size W W' := by
  obtain ⟨par, cv, av, rfl, hcv, hav⟩ := hv
  obtain ⟨w1, hw1⟩ : ∃ w1, W.alloc (.cells #[.int .i64 par, .string n.tag, .string n.id, cv, av] 37) = w1 := ⟨_, rfl⟩
  have b1 : Below W.heap.size W w1 := by rw [← hw1]; exact (Below.refl _ _).alloc (Nat.le_refl _) _
  have k1 : Blk w1 W.heap.size 37 [.int .i64 par, .string n.tag, .string n.id, cv, av] := by rw [← hw1]; exact Blk.new W 37 _
  have hbf := bucketsFor_any n par cv av w1 hn ((hcv.below b1 (fun _ _ h => h)).mono b1.size (fun _ _ h => h)) hav
  obtain ⟨pa, ma, ca, rfl⟩ := hav
  obtain ⟨qc, cc, rfl⟩ := RowT.len hcv
  have h1 := h.next b1
  have HN : Hid (n.ok) := hn
  obtain ⟨⟨c0, c1, c2, c3, c4⟩, _⟩ := blk5 k1
  clear h hcv k1 hn
  go_enter Tryz.func9, Tryz.ntmps9
  go_wp2_with fail
  refine hbf.mono ?_
  clear hbf c0 c1 c2 c3 c4
  rintro e w2 ⟨bv, bl, rfl, hr, hm, hbl, b2⟩
  have M2 := h1.next b2
  have B2 := below_next b1 b2
  obtain ⟨bq, bc, rfl⟩ := owns_form hr
  have HM2 : Hid (MapIn n₀ w2 tb (newFm l) st c) := M2
  have HR : Hid (BksRow w1.heap.size w2 (.slice bq bl.length bc) bl) := hr
  have HM : Hid (∀ b, b ∈ bl ↔ b ∈ bktsV n) := hm
  obtain ⟨NB, hNB⟩ : ∃ NB, bl.length = NB := ⟨_, rfl⟩
  have s1 : W.heap.size ≤ w1.heap.size := b1.size
  have S2 : w1.heap.size ≤ w2.heap.size := b2.size
  have r0 : w2.ownsRow w2.heap.size 3 1 (.slice none 0 0) ((bl.take 0).flatMap (newFm l)).length (nats ((bl.take 0).flatMap (newFm l))) := World.ownsRow_nil _ _ _ _
  clear hr hm M2 h1 b2 b1
  rw [hNB] at hbl ⊢
  go_wp2_with fail
  go_loopw [5, 11] (fun v x wr => ∃ k : Nat, x = .int .i64 k ∧ k ≤ NB ∧ wr.ownsRow w2.heap.size 3 1 v ((bl.take k).flatMap (newFm l)).length (nats ((bl.take k).flatMap (newFm l))) ∧ ((bl.take k).flatMap (newFm l)).length ≤ k * c ∧ Below w2.heap.size w2 wr) (fun _ x _ => NB - (intOf x).toNat)
  case atStart => exact ⟨0, rfl, Nat.zero_le _, r0, by simp, Below.refl _ _⟩
  case round =>
    clear r0
    obtain ⟨k, rfl, hk, hr, hlen, hb⟩ := hrel
    obtain ⟨pk, ck, rfl⟩ := owns_form hr
    by_cases hlt : k < NB
    · have hki : (k : Int) < (NB : Int) := by omega
      obtain ⟨b, hbk⟩ : ∃ b, bl[k]? = some b := ⟨_, List.getElem?_eq_getElem (by omega)⟩
      have hOk := bktsV_ok HN.out ((HM.out b).1 (List.mem_of_getElem? hbk))
      have hcells : ∃ g, bq = some ⟨g, 0, none⟩ ∧ wr.cell? ⟨g, k * 2, none⟩ = some (.int .u8 b.1) ∧ wr.cell? ⟨g, k * 2 + 1, none⟩ = some (.string b.2) ∧ bl.length ≤ bc ∧ bc ≤ 9223372036854775807 := by
        rcases HR.out.2 with ⟨e, hz⟩ | ⟨g, cp, cur, e, hg, hbb, hn1, hm1, _⟩
        · omega
        · cases e
          have hgl : g < w2.heap.size := (Array.getElem?_eq_some_iff.1 hbb).1
          obtain ⟨e1, e2⟩ := bks_get bl k b hbk
          have z1 := HR.out.cells (g := g) rfl _ _ e1
          have z2 := HR.out.cells (g := g) rfl _ _ e2
          rw [addr0] at z1 z2
          exact ⟨g, rfl, (hb.cell (p := ⟨g, _, none⟩) hgl).trans z1, (hb.cell (p := ⟨g, _, none⟩) hgl).trans z2, hn1, by unfold maxLen at hm1; omega⟩
      obtain ⟨g, rfl, x0, x1, hc1, hc2⟩ := hcells
      rw [hNB] at hc1
      obtain ⟨w3, hw3⟩ : ∃ w3, wr.alloc (.cells #[.int .u8 b.1, .string b.2] 65) = w3 := ⟨_, rfl⟩
      have b3 : Below wr.heap.size wr w3 := by rw [← hw3]; exact (Below.refl _ _).alloc (Nat.le_refl _) _
      have k3 : Blk w3 wr.heap.size 65 [.int .u8 b.1, .string b.2] := by rw [← hw3]; exact Blk.new wr 65 _
      have q0 : Below w3.heap.size w3 w3.drew := below_drew (Below.refl _ _)
      have q3 := below_next b3 q0
      obtain ⟨γ, M, cnt, g1, g2, g3, g4, g6, g7, g8⟩ := HM2.out.next (hb.trans (q3.mono hb.size))
      obtain ⟨xv, hlook, hxr, hxg, _⟩ := g2.look b hOk
      have hlk : (Instr.lookup 57 (.map (some M)) (.agg #[.int .u8 b.1, .string b.2]) false).run Tryz.prog w3.drew = .ok xv w3.drew := hlook 0
      have hfew : (newFm l b).length ≤ c := Nat.le_trans (g2.few b) g1
      have hkc : k * c ≤ 103 * 10000000000 := Nat.mul_le_mul (by omega) hc
      have hrk := owns_same hr (W' := w3.drew) (fun g hg => q3.block g (owns_lt hr hg).2)
      obtain ⟨v', w4, hap, hr4, hg4, hat4⟩ := append_rows hrk n₀ hxr (by omega) (by have := hb.size; have := q3.size; omega)
      have hnx : (bl.take k).flatMap (newFm l) ++ newFm l b = (bl.take (k + 1)).flatMap (newFm l) := by
        obtain ⟨hk', rfl⟩ := List.getElem?_eq_some_iff.1 hbk
        rw [List.take_succ_eq_append_getElem hk', List.flatMap_append]
        simp
      rw [hnx] at hr4
      have hB4 : Below w2.heap.size w2 w4 := (hb.trans (q3.mono hb.size)).grown hg4 (by have := hb.size; have := q3.size; omega) (fun r e => (owns_lt hr e).1)
      have hl4 : ((bl.take (k + 1)).flatMap (newFm l)).length ≤ (k + 1) * c := by rw [← hnx, List.length_append, Nat.add_mul, Nat.one_mul]; omega
      have FIN : Hid (w4.ownsRow w2.heap.size 3 1 v' ((bl.take (k + 1)).flatMap (newFm l)).length (nats ((bl.take (k + 1)).flatMap (newFm l))) ∧ ((bl.take (k + 1)).flatMap (newFm l)).length ≤ (k + 1) * c ∧ Below w2.heap.size w2 w4) := ⟨hr4, hl4, hB4⟩
      have HeldS : w3.drew.cell? ⟨tb, 0, none⟩ = some (.map (some M)) ∧ w3.drew.cell? ⟨wr.heap.size, 0, none⟩ = some (.int .u8 b.1) ∧ w3.drew.cell? ⟨wr.heap.size, 1, none⟩ = some (.string b.2) := ⟨(blk2 g3).1.1, (blk2 (k3.below q0 k3.lt)).1⟩
      generalize ((bl.take k).flatMap (newFm l)).length = NL at *
      clear hr hrk hr4 hB4 hl4 hnx hg4 hat4 hxr hxg hlook g1 g2 g3 g4 g6 g7 g8 hbk hOk hlen hkc hfew k3 q3 q0 b3
      go_upto_region 5 with fail
      first | rw [hw3] | skip
      clear hw3 x0 x1
      refine Rg.wpD_begin [0, 1, 2, 3, 4, 5, 6] (fun X => X.cell? ⟨tb, 0, none⟩ = some (.map (some M)) ∧ X.cell? ⟨wr.heap.size, 0, none⟩ = some (.int .u8 b.1) ∧ X.cell? ⟨wr.heap.size, 1, none⟩ = some (.string b.2)) (by kernel_rfl) ?_
      refine Rg.wpD_load 0 (v := ?_) (by simp only [List.getElem?_toArray, List.getElem?_cons_zero]; rfl) (by kernel_rfl) (by kernel_rfl) (by intro _ _ _ h; exact h) HeldS (by rfl) (fun wz hz => ?_) ?_
      rotate_left
      · first | (go_simp; done) | (go_simp; with_reducible rfl)
      simp only [Act.put, List.setIfInBounds_toArray, List.set_cons_succ, List.set_cons_zero]
      refine Rg.wpD_load 1 (v := ?_) (by simp only [List.getElem?_toArray, List.getElem?_cons_succ, List.getElem?_cons_zero]; rfl) (by kernel_rfl) (by kernel_rfl) (by intro _ _ _ h; exact h) HeldS (by rfl) (fun wz hz => ?_) ?_
      rotate_left
      · first | (go_simp; done) | (go_simp; with_reducible rfl)
      simp only [Act.put, List.setIfInBounds_toArray, List.set_cons_succ, List.set_cons_zero]
      refine Rg.wpD_load 2 (v := ?_) (by simp only [List.getElem?_toArray, List.getElem?_cons_succ, List.getElem?_cons_zero]; rfl) (by kernel_rfl) (by kernel_rfl) (by intro _ _ _ h; exact h) HeldS (by rfl) (fun wz hz => ?_) ?_
      rotate_left
      · first | (go_simp; done) | (go_simp; with_reducible rfl)
      simp only [Act.put, List.setIfInBounds_toArray, List.set_cons_succ, List.set_cons_zero]
      refine Rg.wpD_load 3 (v := ?_) (by simp only [List.getElem?_toArray, List.getElem?_cons_succ, List.getElem?_cons_zero]; rfl) (by kernel_rfl) (by kernel_rfl) (by intro _ _ _ h; exact h) HeldS (by rfl) (fun wz hz => ?_) ?_
      rotate_left
      · first | (go_simp; done) | (go_simp; with_reducible rfl)
      simp only [Act.put, List.setIfInBounds_toArray, List.set_cons_succ, List.set_cons_zero]
      refine Rg.wpD_load 4 (v := ?_) (by simp only [List.getElem?_toArray, List.getElem?_cons_succ, List.getElem?_cons_zero]; rfl) (by kernel_rfl) (by kernel_rfl) (by intro _ _ _ h; exact h) HeldS (by rfl) (fun wz hz => ?_) ?_
      rotate_left
      · first | (go_simp; done) | (go_simp; with_reducible rfl)
      simp only [Act.put, List.setIfInBounds_toArray, List.set_cons_succ, List.set_cons_zero]
      refine Rg.wpD_load 5 (v := ?_) (by simp only [List.getElem?_toArray, List.getElem?_cons_succ, List.getElem?_cons_zero]; rfl) (by kernel_rfl) (by kernel_rfl) (by intro _ _ _ h; exact h) HeldS (by rfl) (fun wz hz => ?_) ?_
      rotate_left
      · first | (go_simp; done) | (go_simp; with_reducible rfl)
      simp only [Act.put, List.setIfInBounds_toArray, List.set_cons_succ, List.set_cons_zero]
      refine Rg.wpD_do 6 (by kernel_rfl) (by simp only [List.getElem?_toArray, List.getElem?_cons_succ, List.getElem?_cons_zero]; rfl) (fun K hK => ?_)
      go_simp
      refine hK _ _ (fun _ => HeldS) ?_
      clear hK K HeldS
      refine Rg.wpD_do 7 (by kernel_rfl) (by simp only [List.getElem?_toArray, List.getElem?_cons_succ, List.getElem?_cons_zero]; rfl) (fun K hK => ?_)
      refine step_append_run rfl _ _ 32 rfl rfl rfl hap (hK _ _ (fun h => absurd h (by decide)) ?_)
      clear hK K
      simp only [Act.put, List.setIfInBounds_toArray, List.set_cons_succ, List.set_cons_zero]
      refine Rg.wpD_pure 8 (v := ?_) (by simp only [List.getElem?_toArray, List.getElem?_cons_succ, List.getElem?_cons_zero]; rfl) (by kernel_rfl) (by kernel_rfl) (by intro _ _ _ h; exact h) (by rfl) (fun wz => ?_) ?_
      rotate_left
      · first | (go_simp; done) | (go_simp; with_reducible rfl)
      simp only [Act.put, List.setIfInBounds_toArray, List.set_cons_succ, List.set_cons_zero]
      refine Rg.wpD_done (by kernel_rfl) ?_
      go_wp2
      go_roundw
      case rel => exact ⟨k + 1, by go_num, by omega, FIN.out⟩
      case measure => simp [intOf]; omega
    · have hki : ¬ (k : Int) < (NB : Int) := by omega
      rw [show bl.take k = bl from List.take_of_length_le (by omega)] at hr hlen ⊢
      have hkc : k * c ≤ 103 * 10000000000 := Nat.mul_le_mul (by omega) hc
      have HP : Hid (Lib.compact ((ints (bl.flatMap (newFm l))).mergeSort fun x y => decide (x ≤ y)) = ints (forV l (bktsV n))) := by
        show _ = _
        rw [← forV_same l HM.out]
        exact for_plain l bl
      generalize bl.flatMap (newFm l) = FL at *
      have hil : (ints FL).length = FL.length := by simp [ints]
      rw [← ints_nats, ← hil] at hr
      have hso := sortI_any w2.heap.size _ (ints FL) wr hr hb.size (by omega)
      rw [hil] at hso
      clear hr
      have HB : Hid (Below w2.heap.size w2 wr) := hb
      have hwr := hb.size
      have hfl : FL.length ≤ 1099511627776 := by omega
      clear hb hlen
      go_wp2_with fail
      refine hso.mono ?_
      clear hso
      rintro e w5 ⟨rfl, h5, b5⟩
      have hlm : ((ints FL).mergeSort fun x y => decide (x ≤ y)).length = FL.length := by simp [ints]
      rw [← hlm] at h5
      have hco := compactI_any w2.heap.size _ _ w5 h5 (by have := b5.size; omega) (by rw [hlm]; omega)
      rw [HP.out, ints_nats, show (ints (forV l (bktsV n))).length = (forV l (bktsV n)).length by simp [ints], hlm] at hco
      have B5 := HB.out.trans b5
      clear h5 hlm hil
      go_wp2_with fail
      refine hco.mono ?_
      clear hco
      rintro e w6 ⟨xv, rfl, h6, b6⟩
      have FIN : Hid (w6.ownsRow W.heap.size 3 1 xv (forV l (bktsV n)).length (nats (forV l (bktsV n))) ∧ Below W.heap.size W w6) := by
        refine ⟨⟨h6.1, ?_⟩, B2.trans ((B5.trans b6).mono B2.size)⟩
        rcases h6.2 with h | ⟨g, cp, cur, h, hg, h'⟩
        · exact .inl h
        · exact .inr ⟨g, cp, cur, h, by omega, h'⟩
      clear h6 b6 B5 b5
      go_wp2
      go_ret
      exact ⟨xv, rfl, FIN.out⟩

end Go.Proofs.YtchfnnoabejlpabGreat.Bk
