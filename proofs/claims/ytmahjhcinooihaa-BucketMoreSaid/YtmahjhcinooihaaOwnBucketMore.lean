/- For every list of rules, every node and every text (inputs without rings): the law tapestrierlaw12.BucketMore returns true and leaves its arguments as they were; no other condition. -/
import Derived.Test.YtmahjhcinooihaaBkAlive
import Derived.Test.YtmahjhcinooihaaBkD
import Derived.Test.YtmahjhcinooihaaRows
namespace Go.Proofs.Ytmahjhcinooihaa
open Go.Proofs.Ytmahjhcinooihaa.Tre
open Go Go.ChangeShapes Go.WideShapes Go.ChangeAt Go.RowKit Sl Wg Bk
open Go.ChangeMaps (open_string shut_string)

/-! ### plain facts -/
theorem hit_more {bs cs : List Bkt} (h : ∀ b ∈ bs, b ∈ cs) (l : List Rl) (x : Nat) (hx : x ∈ forV l bs) : x ∈ forV l cs := by
  obtain ⟨r, h1, h2⟩ := (forV_mem l bs x).1 hx
  obtain ⟨b, hb, h3⟩ := List.any_eq_true.1 h2
  exact (forV_mem l cs x).2 ⟨r, h1, List.any_eq_true.2 ⟨b, h b hb, h3⟩⟩
theorem bkts_more (n : Nn) (s : ByteArray) : ∀ b ∈ bktsV n, b ∈ bktsV ⟨n.tag, n.id, n.cls ++ [s]⟩ := by
  intro b hb
  unfold bktsV at hb ⊢
  rw [List.mem_append] at hb ⊢
  rcases hb with hb | hb
  · exact .inl hb
  · refine .inr ?_
    simp only [List.map_append, List.mem_append]
    exact .inl hb
/-- What is left of a is left in b. -/
def Left (a b : List Nat) (k i : Nat) : Prop := k ≤ a.length ∧ ∀ x ∈ a.drop k, x ∈ b.drop i
theorem Left.yes {a b : List Nat} (ha : a.Pairwise (· < ·)) {k i y : Nat} (h : Left a b k i) (hk : a[k]? = some y) (hi : b[i]? = some y) : Left a b (k + 1) (i + 1) := by
  obtain ⟨hkl, rfl⟩ := List.getElem?_eq_some_iff.1 hk
  obtain ⟨hil, he⟩ := List.getElem?_eq_some_iff.1 hi
  refine ⟨by omega, fun x hx => ?_⟩
  have hd : a.drop k = a[k] :: a.drop (k + 1) := List.drop_eq_getElem_cons hkl
  have hx2 := h.2 x (by rw [hd]; exact List.mem_cons_of_mem _ hx)
  rw [List.drop_eq_getElem_cons hil] at hx2
  rcases List.mem_cons.1 hx2 with e | e
  · have hp := List.Pairwise.drop (i := k) ha
    rw [hd, List.pairwise_cons] at hp
    have := hp.1 x hx
    omega
  · exact e
theorem Left.no {a b : List Nat} (ha : a.Pairwise (· < ·)) (hb : b.Pairwise (· < ·)) {k i y : Nat} (h : Left a b k i) (hk : a[k]? ≠ some y) (hi : b[i]? = some y) : Left a b k (i + 1) := by
  obtain ⟨hil, rfl⟩ := List.getElem?_eq_some_iff.1 hi
  refine ⟨h.1, fun x hx => ?_⟩
  have hx2 := h.2 x hx
  have hdb := List.drop_eq_getElem_cons hil
  rw [hdb] at hx2
  rcases List.mem_cons.1 hx2 with e | e
  · exfalso
    have hkl : k < a.length := by
      by_cases hkl : k < a.length
      · exact hkl
      · rw [List.drop_eq_nil_of_le (by omega)] at hx; cases hx
    have hda := List.drop_eq_getElem_cons hkl
    have hpa := List.Pairwise.drop (i := k) ha
    have hpb := List.Pairwise.drop (i := i) hb
    rw [hda, List.pairwise_cons] at hpa
    rw [hdb, List.pairwise_cons] at hpb
    have h1 : a[k] ∈ b.drop i := h.2 _ (by rw [hda]; exact List.mem_cons_self ..)
    rw [hdb] at h1
    rw [hda] at hx
    have hne : a[k] ≠ b[i] := fun e' => hk (by rw [List.getElem?_eq_getElem hkl, e'])
    rcases List.mem_cons.1 h1 with e1 | e1
    · exact hne e1
    · have := hpb.1 _ e1
      rcases List.mem_cons.1 hx with e2 | e2
      · omega
      · have := hpa.1 x e2; omega
  · exact e
theorem Left.end {a b : List Nat} {k : Nat} (h : Left a b k b.length) : k = a.length := by
  have h1 := h.1
  by_cases hk : k < a.length
  · have := h.2 a[k] (by rw [List.drop_eq_getElem_cons hk]; exact List.mem_cons_self ..)
    rw [List.drop_length] at this
    cases this
  · omega

theorem below_next' {w W W' : World} (h : Below w.heap.size w W) (hb : Below W.heap.size W W') : Below w.heap.size w W' := h.trans (hb.mono h.size)
theorem strT_one (c : List Value) (s : ByteArray) (h : StrC c s) : ∀ u ∈ c, u.oneCell' = true := by
  cases h
  intro u hu
  rw [List.mem_singleton] at hu
  subst hu
  rfl

set_option maxRecDepth 100000 in
set_option maxHeartbeats 1000000 in
theorem bucketMore_walk (w : World) (v : Value) (l : List Rl) (hv : RulesR 11 w.heap.size w v l) (hl : RlOk l) (nv : Value) (n : Nn) (hn : NodeAt n w nv) (hnk : NnOk n) (s : ByteArray) (hs : s.size ≤ 281474976710656) :
    Calls Try.prog 4 #[v, nv, .string s] w fun e w' => e = .returned (.bool true) ∧ Below w.heap.size w w' := by
  obtain ⟨i0, hi, hz0, hz1, hz2⟩ := info_ofS infoS
  obtain ⟨par, cv, av, rfl, hcv, pa, ma, ca, rfl⟩ := hn
  obtain ⟨qc, cc, rfl⟩ := RowT.len hcv
  obtain ⟨qv, cpv, rfl⟩ := RowT.len hv
  obtain ⟨w1, hw1⟩ : ∃ w1, w.alloc (.cells #[.int .i64 par, .string n.tag, .string n.id, .slice qc n.cls.length cc, .slice pa ma ca] 26) = w1 := ⟨_, rfl⟩
  have b1 : Below w.heap.size w w1 := by rw [← hw1]; exact (Below.refl _ _).alloc (Nat.le_refl _) _
  have k1 : Blk w1 w.heap.size 26 [.int .i64 par, .string n.tag, .string n.id, .slice qc n.cls.length cc, .slice pa ma ca] := by rw [← hw1]; exact Blk.new w 26 _
  have hal := Bk.alive_any w1
  have HV : Hid (RulesR 11 w.heap.size w (.slice qv l.length cpv) l) := hv
  have HCV : Hid (RowT 1 StrC w.heap.size w (.slice qc n.cls.length cc) n.cls) := hcv
  have HL : Hid (RlOk l) := hl
  have HNK : Hid (NnOk n) := hnk
  clear hv hcv hl hnk
  go_enter Try.func4, Try.ntmps4
  go_wp2_with fail
  refine hal.mono ?_
  clear hal
  rintro e w2 ⟨rfl, b2⟩
  have B2 := below_next b1 b2
  have k2 := k1.below b2 k1.lt
  have hde := dearRules_any _ l w2 (HV.out.next B2)
  have s1 : w.heap.size < w1.heap.size := k1.lt
  clear k1
  go_wp2_with fail
  refine hde.mono ?_
  clear hde
  rintro e w3 ⟨t, rfl, ht, b3⟩
  have B3 := below_next B2 b3
  have k3 := k2.below b3 k2.lt
  clear k2 b2 b1
  have HT : Hid (t = false → l.length ≤ 30 ∧ ∀ r ∈ l, r.length ≤ 8) := ht
  obtain ⟨⟨c0, c1, c2, c3, c4⟩, _⟩ := blk5 k3
  clear ht
  cases t with
  | true =>
    go_wp2
    go_ret
    exact ⟨rfl, B3⟩
  | false =>
    by_cases h20 : (20 : Int) < (n.cls.length : Int)
    · go_wp2
      go_ret
      exact ⟨rfl, B3⟩
    · obtain ⟨h30, h8⟩ := HT.out rfl
      have hcl : n.cls.length ≤ 20 := by omega
      have hnew := new_any 10 _ l w3 (HV.out.next B3) (by omega) (fun r hr => by have := h8 r hr; omega) (fun r hr s hs => SlOk.nm (HL.out r hr s hs))
      have K3 : Hid (Blk w3 w.heap.size 26 [.int .i64 par, .string n.tag, .string n.id, .slice qc n.cls.length cc, .slice pa ma ca]) := k3
      have HCL : Hid (n.cls.length ≤ 20) := hcl
      have s3 : w.heap.size < w3.heap.size := k3.lt
      clear k3 h8 h30 HT hcl
      go_wp2_with fail
      refine hnew.mono ?_
      clear hnew c0 c1 c2 c3 c4
      rintro e w4 ⟨tb, rfl, hM, b4⟩
      have B4 := below_next B3 b4
      have k4 := K3.out.below b4 K3.out.lt
      obtain ⟨⟨c0, c1, c2, c3, c4⟩, _⟩ := blk5 k4
      have hf1 := for_any _ w4 tb l _ _ hM (Nat.le_refl _) n (HNK.out.ok (by have := HCL.out; omega)) _ ⟨par, _, _, rfl, (HCV.out.below B4 (T' := StrC) (fun _ _ h => h)).mono B4.size (fun _ _ h => h), pa, ma, ca, rfl⟩
      have HM : Hid (MapIn w3.heap.size w4 tb (newFm l) (lenV l) 10000000000) := hM
      have K4 : Hid (Blk w4 w.heap.size 26 [.int .i64 par, .string n.tag, .string n.id, .slice qc n.cls.length cc, .slice pa ma ca]) := k4
      have s4 := b4.size
      clear hM k4 K3
      go_wp2_with fail
      refine hf1.mono ?_
      clear hf1 c0 c1 c2 c3 c4
      rintro e w5 ⟨xa, rfl, hxa, b5⟩
      have B5 := below_next B4 b5
      have k5 := K4.out.below b5 K4.out.lt
      have M5 := HM.out.next b5
      have s5 := b5.size
      obtain ⟨⟨c0, c1, c2, c3, c4⟩, _⟩ := blk5 k5
      obtain ⟨v6, w6, hap6, hO6, hg6, hat6⟩ := OwnT.app (W := w5) (base := w5.heap.size) Try.underlying23 hi hz0 hz1 hz2 rfl (by decide) strT_one (OwnT.nil _ _ _ _ _) ((HCV.out.below B5 (T' := StrC) (fun _ _ h => h))) (by unfold maxLen; have := HCL.out; simp; omega) (by have := HCL.out; simp; omega) (Nat.le_refl _)
      have b6 : Below w5.heap.size w5 w6 := (Below.refl _ _).grown hg6 (Nat.le_refl _) (fun r e => by cases e)
      rw [List.nil_append] at hO6
      obtain ⟨w7, hw7⟩ : ∃ w7, w6.alloc (.cells #[.string s] 9) = w7 := ⟨_, rfl⟩
      have b7 : Below w6.heap.size w6 w7 := by rw [← hw7]; exact (Below.refl _ _).alloc (Nat.le_refl _) _
      have r7 : RowT 1 StrC w7.heap.size w7 (.slice (some ⟨w6.heap.size, 0, none⟩) 1 1) [s] := by rw [← hw7]; exact row_one (cs := [.string s]) (heap_alloc_new w6 _) rfl rfl
      obtain ⟨v8, w8, hap8, hO8, hg8, hat8⟩ := OwnT.app (W := w7) (base := w5.heap.size) Try.underlying23 hi hz0 hz1 hz2 rfl (by decide) strT_one (hO6.next b7) r7 (by unfold maxLen; have := HCL.out; simp; omega) (by have := HCL.out; simp; omega) (by have := b6.size; have := b7.size; omega)
      have b68 : Below w5.heap.size w5 w8 := (below_next b6 b7).grown hg8 (by have := b6.size; have := b7.size; omega) (fun r e => (hO6.lt e).1)
      obtain ⟨q6, c6, rfl⟩ := hO6.form
      obtain ⟨q8, c8, rfl⟩ := hO8.form
      have k8 := k5.below b68 k5.lt
      have s8 := b68.size
      obtain ⟨W9, hW9⟩ : ∃ W9, w8.setCell ⟨w.heap.size, 3, none⟩ (.slice q8 (n.cls ++ [s]).length c8) = W9 := ⟨_, rfl⟩
      have k9 : Blk W9 w.heap.size 26 [.int .i64 par, .string n.tag, .string n.id, .slice q8 (n.cls ++ [s]).length c8, .slice pa ma ca] := by rw [← hW9]; exact blk_put k8 3 _
      have g9 : w8.grownBy W9 (some w.heap.size) := by rw [← hW9]; exact grown_set _ _ _ _
      have s9 := g9.size
      have M9 : MapIn w3.heap.size W9 tb (newFm l) (lenV l) 10000000000 := (M5.next b68).low s9 (fun k hk hk2 => g9.block k hk2 (by simp; omega))
      have O9 : OwnT w5.heap.size 9 1 StrC W9 (.slice q8 (n.cls ++ [s]).length c8) (n.cls ++ [s]) := hO8.same (fun g hg => g9.block g (hO8.lt hg).2 (by have := (hO8.lt hg).1; simp; omega)) (fun _ _ h => h)
      have B9 : Below w.heap.size w W9 := (B5.trans (b68.mono B5.size)).grown g9 (by omega) (fun r e => by cases e; exact Nat.le_refl _)
      have hra := intR_of (owns_same hxa (W' := W9) (fun g hg => by
        have h1 := owns_lt hxa hg
        exact (g9.block g (by omega) (by simp; omega)).trans (b68.block g h1.2)))
      have hf2 := for_any _ W9 tb l _ _ M9 (Nat.le_refl _) ⟨n.tag, n.id, n.cls ++ [s]⟩ (NnOk.ok ⟨HNK.out.1, HNK.out.2.1, fun x hx => by
        rcases List.mem_append.1 hx with h | h
        · exact HNK.out.2.2 x h
        · rw [List.mem_singleton] at h; subst h; exact hs⟩ (by have := HCL.out; simp; omega)) _ ⟨par, _, _, rfl, O9.row (by decide), pa, ma, ca, rfl⟩
      have HRA : Hid (IntR W9 xa (forV l (bktsV n))) := hra
      have K9 : Hid (Blk W9 w.heap.size 26 [.int .i64 par, .string n.tag, .string n.id, .slice q8 (n.cls ++ [s]).length c8, .slice pa ma ca]) := k9
      have x8 := (blk5 k8).1.2.2.2.1
      have f8 := (blk5 k8).2.2.2.2.1
      have ZA : Hid ((forV l (bktsV n)).Pairwise (· < ·)) := forV_rise _ _
      have ZB : Hid ((forV l (bktsV ⟨n.tag, n.id, n.cls ++ [s]⟩)).Pairwise (· < ·)) := forV_rise _ _
      have ZL : Hid (Left (forV l (bktsV n)) (forV l (bktsV ⟨n.tag, n.id, n.cls ++ [s]⟩)) 0 0) := ⟨Nat.zero_le _, fun x hx => hit_more (bkts_more n s) l x hx⟩
      obtain ⟨N8, hN8⟩ : ∃ N8, (n.cls ++ [s]).length = N8 := ⟨_, rfl⟩
      rw [hN8] at hap8 hW9 K9 hf2
      clear hxa hra k5 k8 k9 M5 M9 O9 hO6 hO8 hg6 hg8 hat6 hat8 b68 b6 r7 g9 HM K4 HV HCV HL HNK
      generalize forV l (bktsV ⟨n.tag, n.id, n.cls ++ [s]⟩) = fb at *
      generalize forV l (bktsV n) = fa at *
      have hap6' : Hid (_ = _) := hap6
      have hap8' : Hid (_ = _) := hap8
      clear hap6 hap8 hN8
      obtain ⟨⟨e0, e1, e2, e3, e4⟩, _⟩ := blk5 K9.out
      obtain ⟨qa, cpa, rfl, ha⟩ := HRA.out
      go_wp2_with (at_builtin; refine wpList_plain rfl fun K hK => ?_; first | refine opw_append_run _ _ 23 rfl rfl rfl hap6'.out (hK _ _ ?_) | refine opw_append_run _ _ 23 rfl rfl rfl hap8'.out (hK _ _ ?_))
      refine hf2.mono ?_
      clear hf2 x8 f8 e0 e1 e2 e3 e4 c0 c1 c2 c3 c4 hap6' hap8' hW9 hw7
      rintro e w10 ⟨xb, rfl, hxb, b10⟩
      have hrb := intR_of hxb
      obtain ⟨qb, cpb, rfl, hb⟩ := hrb
      have B10 := below_next' B9 b10
      have HA : Hid (∀ (j x : Nat), fa[j]? = some x → ∃ b, qa = some ⟨b, 0, none⟩ ∧ b < w10.heap.size ∧ fa.length ≤ cpa ∧ cpa ≤ 9223372036854775807 ∧ w10.cell? ⟨b, j, none⟩ = some (.int .i64 x)) := fun j x hj => by
        obtain ⟨b, h1, h2, h3, h4, h5⟩ := ha j x hj
        exact ⟨b, h1, Nat.lt_of_lt_of_le h2 b10.size, h3, h4, (b10.cell (p := ⟨b, j, none⟩) h2).trans h5⟩
      have HB : Hid (∀ (j x : Nat), fb[j]? = some x → ∃ b, qb = some ⟨b, 0, none⟩ ∧ b < w10.heap.size ∧ fb.length ≤ cpb ∧ cpb ≤ 9223372036854775807 ∧ w10.cell? ⟨b, j, none⟩ = some (.int .i64 x)) := hb
      obtain ⟨NA, hNA⟩ : ∃ NA, fa.length = NA := ⟨_, rfl⟩
      obtain ⟨NB, hNB⟩ : ∃ NB, fb.length = NB := ⟨_, rfl⟩
      rw [hNA] at HA ⊢
      rw [hNB] at HB ⊢
      have HNA : Hid (fa.length = NA) := hNA
      have HNB : Hid (fb.length = NB) := hNB
      clear ha hb hxb HRA b10 hNA hNB B9 B5 B4 B3 B2
      go_wp2
      go_loopw [12, 13] (fun x12 x13 wr => ∃ (k i : Nat), x12 = .int .i64 k ∧ x13 = .int .i64 i ∧ i ≤ NB ∧ Left fa fb k i ∧ Below w10.heap.size w10 wr) (fun _ x13 _ => NB - (intOf x13).toNat)
      case atStart => exact ⟨0, 0, rfl, rfl, Nat.zero_le _, ZL.out, Below.refl _ _⟩
      case round =>
        obtain ⟨k, i, rfl, rfl, hi2, hL, hwr⟩ := hrel
        have hkA : k ≤ NA := by have := hL.1; rw [HNA.out] at this; exact this
        by_cases hlt : i < NB
        · have hii : (i : Int) < (NB : Int) := by omega
          obtain ⟨y, hy⟩ : ∃ y, fb[i]? = some y := ⟨_, List.getElem?_eq_getElem (by rw [HNB.out]; exact hlt)⟩
          obtain ⟨bb, rfl, p1, p2, p3, p4⟩ := HB.out i y hy
          have d1 : wr.cell? ⟨bb, i, none⟩ = some (.int .i64 y) := (hwr.cell (p := ⟨bb, i, none⟩) p1).trans p4
          have hi1 : (i : Int) + 1 ≤ 9223372036854775807 := by omega
          have hk1 : (k : Int) + 1 ≤ 9223372036854775807 ∨ NA ≤ k := by
            by_cases h : k < NA
            · obtain ⟨x, hx⟩ : ∃ x, fa[k]? = some x := ⟨_, List.getElem?_eq_getElem (by rw [HNA.out]; exact h)⟩
              obtain ⟨_, _, _, h3, h4, _⟩ := HA.out k x hx
              exact .inl (by omega)
            · exact .inr (by omega)
          have HLY : Hid (fa[k]? = some y → Left fa fb (k + 1) (i + 1)) := fun h => hL.yes ZA.out h hy
          have HLN : Hid (fa[k]? ≠ some y → Left fa fb k (i + 1)) := fun h => hL.no ZA.out ZB.out h hy
          -- the element ahead is less
          have HPR : Hid (0 < i → ∃ z, z < y ∧ wr.cell? ⟨bb, i - 1, none⟩ = some (.int .i64 z)) := fun h0 => by
            obtain ⟨z, hz⟩ : ∃ z, fb[i - 1]? = some z := ⟨_, List.getElem?_eq_getElem (by rw [HNB.out]; omega)⟩
            obtain ⟨bb', e', q1, _, _, q4⟩ := HB.out (i - 1) z hz
            cases e'
            refine ⟨z, ?_, (hwr.cell (p := ⟨bb, i - 1, none⟩) q1).trans q4⟩
            obtain ⟨g1, rfl⟩ := List.getElem?_eq_some_iff.1 hz
            obtain ⟨g2, rfl⟩ := List.getElem?_eq_some_iff.1 hy
            exact (List.pairwise_iff_getElem.1 ZB.out) (i - 1) i g1 g2 (by omega)
          clear p4 hy hL
          go_upto_region 13 with fail
          go_cut [64] (fun x wx => ∃ (t : Bool), x = .bool t ∧ (∀ a, wx.cell? a = wr.cell? a) ∧ Below wr.heap.size wr wx ∧ Hid (t = decide (fa[k]? = some y)))
          case first =>
            by_cases hka : k < NA
            · have hkk : (k : Int) < (NA : Int) := by omega
              obtain ⟨x, hx⟩ : ∃ x, fa[k]? = some x := ⟨_, List.getElem?_eq_getElem (by rw [HNA.out]; exact hka)⟩
              obtain ⟨ba, rfl, r1, r2, r3, r4⟩ := HA.out k x hx
              have d2 : wr.cell? ⟨ba, k, none⟩ = some (.int .i64 x) := (hwr.cell (p := ⟨ba, k, none⟩) r1).trans r4
              have hxy : ((x : Int) == (y : Int)) = decide (fa[k]? = some y) := by
                rw [hx]
                by_cases e : x = y
                · subst e; simp
                · have : ¬ ((x : Int) = (y : Int)) := by omega
                  simp [e, this]
              have HXY : Hid (((x : Int) == (y : Int)) = decide (fa[k]? = some y)) := hxy
              clear hxy hx r4
              go_quiet (fail)
              go_wp2
              go_meet
              exact ⟨_, rfl, fun _ => rfl, below_drewN _ _, HXY.out⟩
            · have hkk : ¬ (k : Int) < (NA : Int) := by omega
              have HXY : Hid (false = decide (fa[k]? = some y)) := by
                show _ = _
                rw [List.getElem?_eq_none (by rw [HNA.out]; omega)]
                simp
              go_quiet (fail)
              go_wp2
              go_meet
              exact ⟨_, rfl, fun _ => rfl, below_drewN _ _, HXY.out⟩
          case rest =>
          obtain ⟨t, rfl, hce, hbw, HTT⟩ := hcut
          have d3 := (hce ⟨bb, i, none⟩).trans d1
          have B3w := below_next' hwr hbw
          clear d1 hwr hbw
          cases t with
          | true =>
            have hly : Left fa fb (k + 1) (i + 1) := HLY.out (of_decide_eq_true HTT.out.symm)
            have hk2 : (k : Int) + 1 ≤ 9223372036854775807 := by
              rcases hk1 with h | h
              · exact h
              · exfalso
                have := of_decide_eq_true HTT.out.symm
                rw [List.getElem?_eq_none (by rw [HNA.out]; exact h)] at this
                cases this
            have HLL : Hid (Left fa fb (k + 1) (i + 1)) := hly
            clear hly HLY HLN HTT hk1
            by_cases h0 : i = 0
            · subst h0
              have z0 : ¬ ((0 : Int) < ((0 : Nat) : Int)) := by omega
              clear HPR d3 hce
              go_wp2
              go_quiet (fail)
              go_wp2
              go_roundw
              case rel => exact ⟨k + 1, 0 + 1, by go_num, by go_num, by omega, HLL.out, below_next' B3w (below_drewN _ _)⟩
              case measure => simp [intOf]; omega
            · obtain ⟨z, hzy, d4⟩ := HPR.out (by omega)
              have z0 : (0 : Int) < (i : Int) := by omega
              have z00 : 0 < i := by omega
              have z000 : decide (0 < i) = true := decide_eq_true z00
              have z1 : IntKind.i64.wrap ((i : Int) - 1) = ((i - 1 : Nat) : Int) := by rw [IntKind.wrap_i64]; omega
              have z2 : ((i - 1 : Nat) : Int) < (NB : Int) := by omega
              have z3 : decide (y ≤ z) = false := decide_eq_false (by omega)
              have d5 := (hce ⟨bb, i - 1, none⟩).trans d4
              obtain ⟨im, him⟩ : ∃ im, i - 1 = im := ⟨_, rfl⟩
              rw [him] at z1 z2 d5
              clear HPR d4 him hzy hce
              go_wp2
              go_quiet (fail)
              clear z0 z00 z000 z1 z2 d5 d3 hii h0
              go_wp2
              go_roundw
              case rel => exact ⟨k + 1, i + 1, by go_num, by go_num, by omega, HLL.out, below_next' B3w (below_drewN _ _)⟩
              case measure => simp [intOf]; omega
          | false =>
            have HLL : Hid (Left fa fb k (i + 1)) := HLN.out (of_decide_eq_false HTT.out.symm)
            clear HLY HLN HTT hk1
            by_cases h0 : i = 0
            · subst h0
              have z0 : ¬ ((0 : Int) < ((0 : Nat) : Int)) := by omega
              clear HPR d3 hce
              go_wp2
              go_quiet (fail)
              go_wp2
              go_roundw
              case rel => exact ⟨k, 0 + 1, by go_num, by go_num, by omega, HLL.out, below_next' B3w (below_drewN _ _)⟩
              case measure => simp [intOf]; omega
            · obtain ⟨z, hzy, d4⟩ := HPR.out (by omega)
              have z0 : (0 : Int) < (i : Int) := by omega
              have z00 : 0 < i := by omega
              have z000 : decide (0 < i) = true := decide_eq_true z00
              have z1 : IntKind.i64.wrap ((i : Int) - 1) = ((i - 1 : Nat) : Int) := by rw [IntKind.wrap_i64]; omega
              have z2 : ((i - 1 : Nat) : Int) < (NB : Int) := by omega
              have z3 : decide (y ≤ z) = false := decide_eq_false (by omega)
              have d5 := (hce ⟨bb, i - 1, none⟩).trans d4
              obtain ⟨im, him⟩ : ∃ im, i - 1 = im := ⟨_, rfl⟩
              rw [him] at z1 z2 d5
              clear HPR d4 him hzy hce
              go_wp2
              go_quiet (fail)
              clear z0 z00 z000 z1 z2 d5 d3 hii h0
              go_wp2
              go_roundw
              case rel => exact ⟨k, i + 1, by go_num, by go_num, by omega, HLL.out, below_next' B3w (below_drewN _ _)⟩
              case measure => simp [intOf]; omega
        · have hii : ¬ (i : Int) < (NB : Int) := by omega
          obtain rfl : i = NB := by omega
          rw [← HNB.out] at hL
          have hkn := hL.end
          rw [HNA.out] at hkn
          subst hkn
          have hB := below_next' B10 hwr
          clear hL
          go_wp2
          go_ret
          exact ⟨rfl, hB⟩

set_option maxRecDepth 100000 in
theorem bucketMore_lifted (os : Os) (started : os.Started) (H : Type) (enc : TypeId × Value → H) :
    ReturnsInHanded {} Try.checked os 4 .any (Rows.bucketMoreSpec.pre6 enc Try.prog Try.f4 Rows.bucketMoreRow.domain false) (Rows.bucketMoreSpec.post enc Try.prog Try.f4 false true false false) := by
  refine returnsInHanded_of_change_sized (C := Try.checked) ownNone started (by kernel_rfl) Try.func4
    (ChangeSpec.witness6 (enc := enc) (C := Try.checked) false ⟨#[], #[.slice none 0 0, .agg #[.int .i64 0, .string ⟨#[]⟩, .string ⟨#[]⟩, .slice none 0 0, .slice none 0 0], .string ⟨#[]⟩], []⟩ 8 (by kernel_rfl) (by kernel_rfl) (by kernel_rfl) (by kernel_rfl)) ?_
  intro W base args ds gs before hval hW _ hsz0 _
  have hW' := hW
  obtain ⟨p, q, hA0, hV, rfl, hfz, hnd⟩ := hW
  have hA : DataW.TrodAll enc Try.prog W 0 (fun _ => true) true Try.f4.params.toList args.toList ds p := hA0
  rw [Try.params4] at hA hval hsz0
  obtain ⟨v0, vs0, d0, ds0, p0, q0, hargs, rfl, rfl, h0, r0⟩ := trodAll_cons hA
  obtain ⟨v1, vs1, d1, ds1, p1, q1, rfl, rfl, rfl, h1, r1⟩ := trodAll_cons r0
  obtain ⟨v2, vs2, d2, ds2, p2, q2, rfl, rfl, rfl, h2, r2⟩ := trodAll_cons r1
  obtain ⟨rfl, rfl, rfl⟩ := trodAll_nil r2
  obtain rfl : args = #[v0, v1, v2] := by cases args; simp_all
  obtain ⟨rfl, rfl⟩ := trodVars_none hV
  have hsz := List.all_eq_true.1 hsz0
  obtain ⟨a0, len0, cap0, rfl⟩ := okWide_slice Try.underlying22 (hval 0 22 v0 rfl rfl)
  have k0 := h0
  have lt0 : ∀ x ∈ p0, x.block < W.heap.size := by obtain ⟨m, hm⟩ := k0; exact DataW.trod_lt m _ _ _ hm
  obtain ⟨z0, w0, y0⟩ := Bk.rulesAt_of_reads k0 (fun n hn => by simpa using hsz n (DataW.weights_mem_each (j := 0) rfl rfl n hn))
  have k1 := h1
  have lt1 : ∀ x ∈ p1, x.block < W.heap.size := by obtain ⟨m, hm⟩ := k1; exact DataW.trod_lt m _ _ _ hm
  obtain ⟨z1, w1, y1⟩ := Bk.nodeAt_of_reads k1 (hval 1 26 v1 rfl rfl) (fun n hn => by simpa using hsz n (DataW.weights_mem_each (j := 1) rfl rfl n hn))
  obtain ⟨s2, rfl, rfl, rfl, w2⟩ := open_string Try.underlying9 (hval 2 9 v2 rfl rfl) h2
  have y2 : s2.size ≤ 281474976710656 := short_string (by simpa using hsz s2.data.toList.length (DataW.weights_mem_each (j := 2) rfl rfl _ (by simp [DataW.weights])))
  clear hA0
  refine (bucketMore_walk W _ z0 w0 y0 v1 z1 w1 y1 s2 y2).mono fun e W' ⟨he, bel⟩ => ?_
  subst he
  exact ⟨_, rfl, _, _, _, [], _, [], hW', trodAll_mk1 (shut_bool Try.underlying4 _), (trodAll_cons_mk (Below.trod laidOut (by kernel_rfl) (of_decide_eq_true (by kernel_rfl)) k0 bel lt0) (trodAll_cons_mk (Below.trod laidOut (by kernel_rfl) (of_decide_eq_true (by kernel_rfl)) k1 bel lt1) (trodAll_cons_mk (shut_string Try.underlying9 w2) trodAll_mk0))), rfl, bel.frame _, fun h => by cases h⟩

theorem bucketMore_said : Rows.BucketMoreSaid :=
  OpenClaim.holds_of_wide 4 Try.f4 rfl rfl rfl rfl rfl rfl rfl ⟨rfl, rfl, rfl, rfl, rfl⟩ rfl rfl rfl rfl rfl (by kernel_rfl) Try.func4 (by kernel_rfl)
    (of_decide_eq_true (by kernel_rfl)) (by unfold Func.isWrapper; first | (rw [if_pos (by decide +kernel)]; kernel_rfl) | (rw [if_neg (by decide +kernel)]; exact ⟨rfl, rfl⟩))
    (fun os started H enc _ => bucketMore_lifted os started H enc)
#print axioms bucketMore_said


end Go.Proofs.Ytmahjhcinooihaa
