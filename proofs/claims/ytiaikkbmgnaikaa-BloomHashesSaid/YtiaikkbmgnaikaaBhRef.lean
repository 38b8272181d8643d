/- The document's own hashes: HashesOf at every node, Wants at every selector. -/
import Derived.Test.YtiaikkbmgnaikaaBhWnt
namespace Go.Proofs.Ytiaikkbmgnaikaa.Bl
open Go Go.RowKit Go.Shelf Wg Sl Go.Proofs.Ytiaikkbmgnaikaa.Tre

/-- One number more in a row. -/
theorem num_push {base : Nat} {X w3 : World} {v v' : Value} {xs : List Nat} {y N : Nat} (hr : NumRow base X v xs) (hN : xs.length = N) (hb : base ≤ X.heap.size) (o : Obj)
    (hown : w3.ownsRow base 3 1 v' (N + 1) (xs.map (fun x : Nat => Value.int .i64 x) ++ [.int .i64 (y : Nat)])) (hg : (X.alloc o).grownBy w3 v.ownBlock) : NumRow base w3 v' (xs ++ [y]) ∧ Below base X w3 := by
  refine ⟨?_, ((Below.refl base X).alloc hb o).grown hg (by simp; omega) (fun r e => (owns_lt hr e).1)⟩
  unfold NumRow
  rw [List.length_append, List.length_singleton, List.map_append, hN]
  exact hown

set_option maxRecDepth 100000 in
set_option maxHeartbeats 2000000 in
theorem refOf_any (pa : Int) (tag id : ByteArray) (pc : Option Addr) (cc : Nat) (pv : Option Addr) (mv cv : Nat) (cls : List ByteArray) (w : World) (ht : tag.size ≤ 281474976710656) (hid : id.size ≤ 281474976710656) (hc : StrsR w (.slice pc cls.length cc) cls) (hl : cls.length ≤ 1000000) :
    Calls Try.prog 13 #[.agg #[.int .i64 pa, .string tag, .string id, .slice pc cls.length cc, .slice pv mv cv]] w fun e w' => ∃ v, e = .returned v ∧ NumRow w.heap.size w' v (nodeV tag id cls) ∧ Below w.heap.size w w' := by
  obtain ⟨i0, hi, hz0, hz1, hz2⟩ := infoI_parts
  obtain ⟨w1, hw1⟩ : ∃ w1, w.alloc (.cells #[.int .i64 pa, .string tag, .string id, .slice pc cls.length cc, .slice pv mv cv] 25) = w1 := ⟨_, rfl⟩
  have b1 : Below w.heap.size w w1 := by rw [← hw1]; exact (Below.refl _ w).alloc (Nat.le_refl _) _
  have k1 : Blk w1 w.heap.size 25 [.int .i64 pa, .string tag, .string id, .slice pc cls.length cc, .slice pv mv cv] := by rw [← hw1]; exact Blk.new w _ _
  have KN : Hid (Blk w1 w.heap.size 25 [.int .i64 pa, .string tag, .string id, .slice pc cls.length cc, .slice pv mv cv]) := k1
  have HC : Hid (StrsR w (.slice pc cls.length cc) cls) := hc
  have s1 : w.heap.size < w1.heap.size := k1.lt
  obtain ⟨⟨_, x1, x2, x3, _⟩, _⟩ := blk5 k1
  have hT := refHash_any 1 tag ht w1
  have HI : Hid (∀ X, Calls Try.prog 11 #[.int .i64 2, .string id] X fun e w' => e = .returned (.int .i64 (hashV 2 id)) ∧ w' = X) := fun X => refHash_any 2 id hid X
  obtain ⟨H1, hH1⟩ : ∃ H, hashV 1 tag = H := ⟨_, rfl⟩
  obtain ⟨H2, hH2⟩ : ∃ H, hashV 2 id = H := ⟨_, rfl⟩
  obtain ⟨l1, hl1⟩ : ∃ l1 : List Nat, (if tag = ⟨#[]⟩ then [] else [H1]) = l1 := ⟨_, rfl⟩
  obtain ⟨l2, hl2⟩ : ∃ l2 : List Nat, l1 ++ (if id = ⟨#[]⟩ then [] else [H2]) = l2 := ⟨_, rfl⟩
  have HV : Hid (nodeV tag id cls = l2 ++ cls.map (hashV 3)) := by
    show _ = _
    unfold nodeV namesV
    rw [← hl2, ← hl1, hH1]
    split <;> split <;> simp [hH2]
  have HL1 : Hid ((if tag = ⟨#[]⟩ then [] else [H1]) = l1) := hl1
  have HL2 : Hid (l1 ++ (if id = ⟨#[]⟩ then [] else [H2]) = l2) := hl2
  have hn1 : l1.length ≤ 1 := by rw [← hl1]; split <;> simp
  have hn2 : l2.length ≤ 2 := by rw [← hl2, List.length_append]; split <;> simp <;> omega
  rw [hH1] at hT
  rw [hH2] at HI
  clear hc k1 hl1 hl2 hH1 hH2 ht hid
  go_enter Try.func13, Try.ntmps13
  go_upto_if 7 with fail
  go_cut [3] (fun x wx => NumRow w1.heap.size wx x l1 ∧ Below w1.heap.size w1 wx)
  case first =>
    clear x2 x3 HI HL2 HV HC KN
    by_cases h0 : tag = ⟨#[]⟩
    · have hemp : tag.toList.isEmpty = true := by rw [h0, ByteArray.toList_eq]; rfl
      rw [show (!tag.toList.isEmpty) = false by rw [hemp]; rfl]
      have FIN : Hid (NumRow w1.heap.size w1 (.slice none 0 0) l1 ∧ Below w1.heap.size w1 w1) := ⟨by rw [← HL1.out, if_pos h0]; exact World.ownsRow_nil _ _ _ _, Below.refl _ _⟩
      clear h0 hemp hT
      go_wp2
      go_meet
      exact FIN.out
    · have hemp := bytes_nil h0
      rw [show (!tag.toList.isEmpty) = true by rw [hemp]; rfl]
      have e1 : [] ++ [H1] = l1 := by rw [← HL1.out, if_neg h0]; rfl
      have HE : Hid ([] ++ [H1] = l1) := e1
      have hr0 : NumRow w1.heap.size w1 (.slice none 0 0) [] := World.ownsRow_nil _ _ _ _
      clear h0 hemp e1
      go_wp2_with fail
      go_at_call 11
      refine Calls.mono hT ?_
      clear hT
      rintro e w' ⟨rfl, hww⟩
      obtain rfl := hww.symm
      clear hww
      go_wp2_with (at_builtin; refine wpList_append_own_at _ rfl _ _ 30 rfl w1.heap.size 3 i0 (.int .i64 0) 1 8 Try.underlying30 hi hz0 hz1 hz2 rfl (by decide) (.slice none 0 0) 0 _ rfl (hr0.alloc _) ⟨w1.heap.size, 0, none⟩ 1 1 [.int .i64 (H1 : Nat)] rfl rfl (one_cell_new _ _ _) (by simp [Value.oneCell']) (by unfold maxLen; omega) (by omega) (by simp) ?_; intro v' w3 hown3 hgrow3 _hnil3 _hat3)
      go_meet
      rw [← HE.out]
      exact num_push (N := 0) hr0 rfl (Nat.le_refl _) _ hown3 hgrow3
  case rest =>
  clear x1 x2 x3 hT hw1
  obtain ⟨hr, hb⟩ := hcut
  have x2 := (blk5 (KN.out.below hb s1)).1.2.2.1
  have HR : Hid (_ ∧ _) := ⟨hr, hb⟩
  obtain ⟨q, c, rfl⟩ := owns_form hr
  have hsz := hb.size
  have hcall := HI.out wc
  clear hb
  obtain ⟨wd, hwd⟩ : ∃ wd, wd = wc := ⟨_, rfl⟩
  subst hwd
  obtain ⟨NF, hNF⟩ : ∃ NF, l1.length = NF := ⟨_, rfl⟩
  have HNF : Hid (l1.length = NF) := hNF
  unfold NumRow at hr
  rw [hNF] at hn1 HR hr ⊢
  clear hNF
  go_upto_if 16 with fail
  go_cut [3] (fun x wx => NumRow w1.heap.size wx x l2 ∧ Below w1.heap.size w1 wx)
  case first =>
    clear HV HC KN
    by_cases h0 : id = ⟨#[]⟩
    · have hemp : id.toList.isEmpty = true := by rw [h0, ByteArray.toList_eq]; rfl
      rw [show (!id.toList.isEmpty) = false by rw [hemp]; rfl]
      have FIN : Hid (NumRow w1.heap.size wd (.slice q NF c) l2 ∧ Below w1.heap.size w1 wd) := ⟨by rw [← HL2.out, if_pos h0, List.append_nil]; exact HR.out.1, HR.out.2⟩
      clear h0 hemp hcall
      go_wp2
      go_meet
      exact FIN.out
    · have hemp := bytes_nil h0
      rw [show (!id.toList.isEmpty) = true by rw [hemp]; rfl]
      have HE : Hid (l1 ++ [H2] = l2) := by show _ = _; rw [← HL2.out, if_neg h0]
      clear h0 hemp
      go_wp2_with fail
      go_at_call 11
      refine Calls.mono hcall ?_
      clear hcall
      rintro e w' ⟨rfl, hww⟩
      obtain rfl := hww.symm
      clear hww
      go_wp2_with (at_builtin; refine wpList_append_own_at _ rfl _ _ 30 rfl w1.heap.size 3 i0 (.int .i64 0) 1 8 Try.underlying30 hi hz0 hz1 hz2 rfl (by decide) (.slice q NF c) NF _ rfl (hr.alloc _) ⟨wd.heap.size, 0, none⟩ 1 1 [.int .i64 (H2 : Nat)] rfl rfl (one_cell_new _ _ _) (by simp [Value.oneCell']) (by unfold maxLen; omega) (by omega) (by simp; omega) ?_; intro v' w3 hown3 hgrow3 _hnil3 _hat3)
      go_meet
      rw [← HE.out]
      obtain ⟨a1, a2⟩ := num_push (N := NF) HR.out.1 HNF.out hsz _ hown3 hgrow3
      exact ⟨a1, HR.out.2.trans a2⟩
  case rest =>
  clear x2 hcall HR hr
  obtain ⟨hr, hb⟩ := hcut
  obtain ⟨we, hwe⟩ : ∃ we, we = wc := ⟨_, rfl⟩
  subst hwe
  have HS : Hid (NumRow w1.heap.size we _ l2 ∧ Below w1.heap.size w1 we) := ⟨hr, hb⟩
  clear hr hb HNF hn1 HL1 HL2
  go_wp2
  go_loopw [3, 4] (fun x y wr => ∃ k : Nat, y = .int .i64 k ∧ k ≤ cls.length ∧ NumRow w1.heap.size wr x (l2 ++ (cls.take k).map (hashV 3)) ∧ Below w1.heap.size w1 wr) (fun _ y _ => cls.length - (intOf y).toNat)
  case atStart => exact ⟨0, rfl, Nat.zero_le _, by simpa using HS.out.1, HS.out.2⟩
  case round =>
    clear HS
    obtain ⟨k, rfl, hk, hr, hb⟩ := hrel
    have x3 := (blk5 (KN.out.below hb s1)).1.2.2.2.1
    have hsz := hb.size
    by_cases hlt : k < cls.length
    · have hki : (k : Int) < (cls.length : Int) := by omega
      obtain ⟨x, hx⟩ : ∃ x, cls[k]? = some x := ⟨_, List.getElem?_eq_getElem hlt⟩
      have hbw := b1.trans (hb.mono (Nat.le_of_lt s1))
      obtain ⟨bk, off, rfl, hcell, hxs⟩ := (HC.out.kept (Y := wr) (fun r h1 h2 => hbw.block r (HC.out.lt h2 h1))).get hx
      have hcall := refHash_any 3 x hxs wr
      obtain ⟨H3, hH3⟩ : ∃ H, hashV 3 x = H := ⟨_, rfl⟩
      rw [hH3] at hcall
      obtain ⟨pre, hpre⟩ : ∃ pre, l2 ++ (cls.take k).map (hashV 3) = pre := ⟨_, rfl⟩
      have HP : Hid (l2 ++ (cls.take (k + 1)).map (hashV 3) = pre ++ [H3]) := by
        show _ = _
        rw [← hpre, List.take_add_one, hx, List.map_append, List.append_assoc]
        simp [hH3]
      have hnp : pre.length ≤ k + 2 := by rw [← hpre]; simp; omega
      rw [hpre] at hr
      obtain ⟨NF, hNF⟩ : ∃ NF, pre.length = NF := ⟨_, rfl⟩
      have HNF : Hid (pre.length = NF) := hNF
      obtain ⟨q, c, rfl⟩ := owns_form hr
      have HR : Hid (NumRow w1.heap.size wr _ pre) := hr
      unfold NumRow at hr
      rw [hNF] at hr hnp HR ⊢
      clear hNF hpre hx hH3
      go_wp2_with fail
      go_at_call 11
      refine Calls.mono hcall ?_
      clear hcall hcell x3
      rintro e w' ⟨rfl, hww⟩
      obtain rfl := hww.symm
      clear hww
      go_wp2_with (at_builtin; refine wpList_append_own_at _ rfl _ _ 30 rfl w1.heap.size 3 i0 (.int .i64 0) 1 8 Try.underlying30 hi hz0 hz1 hz2 rfl (by decide) (.slice q NF c) NF _ rfl (hr.alloc _) ⟨wr.heap.size, 0, none⟩ 1 1 [.int .i64 (H3 : Nat)] rfl rfl (one_cell_new _ _ _) (by simp [Value.oneCell']) (by unfold maxLen; omega) (by omega) (by simp; omega) ?_; intro v' w3 hown3 hgrow3 _hnil3 _hat3)
      obtain ⟨a1, a2⟩ := num_push (N := NF) HR.out HNF.out hsz _ hown3 hgrow3
      go_roundw
      case rel => exact ⟨k + 1, by go_num, by omega, by rw [HP.out]; exact a1, hb.trans a2⟩
      case measure => simp [intOf]; omega
    · have hki : ¬ (k : Int) < (cls.length : Int) := by omega
      rw [List.take_of_length_le (by omega)] at hr
      obtain ⟨q, c, rfl⟩ := owns_form hr
      have FIN : Hid (NumRow w.heap.size wr _ (nodeV tag id cls) ∧ Below w.heap.size w wr) := ⟨by rw [HV.out]; exact num_base hr (Nat.le_of_lt s1), b1.trans (hb.mono (Nat.le_of_lt s1))⟩
      generalize (l2 ++ cls.map (hashV 3)).length = NL at FIN ⊢
      clear hr
      go_wp2
      go_ret
      exact ⟨_, rfl, FIN.out⟩

end Go.Proofs.Ytiaikkbmgnaikaa.Bl
