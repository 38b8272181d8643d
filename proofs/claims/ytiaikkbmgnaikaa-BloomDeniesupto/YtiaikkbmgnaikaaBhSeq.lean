/- Package bloom: hashes of names as an iterator. -/
import Derived.Test.YtiaikkbmgnaikaaBlMem
import Derived.Test.YtiaikkbmgnaikaaBhHash
import Derived.Test.YtiaikkbmgnaikaaWgMem
namespace Go.Proofs.Ytiaikkbmgnaikaa.Bl
open Go Go.RowKit Go.Shelf Wg
attribute [local go_sem] Oper.semAt_some

theorem bytes_nil {x : ByteArray} (ht : x ≠ ⟨#[]⟩) : x.toList.isEmpty = false := by
  rw [ByteArray.toList_eq]
  cases h : x.data.toList with
  | nil =>
    refine absurd ?_ ht
    cases x with
    | mk d => simp at h; rw [h]
  | cons a l => rfl

/-- The slice v has the texts l, none too long. -/
def StrsR (W : World) (v : Value) (l : List ByteArray) : Prop :=
  ((l = [] ∧ ∃ p c, v = .slice p 0 c) ∨ ∃ b off cap, v = .slice (some ⟨b, off, none⟩) l.length cap ∧ l.length ≤ cap ∧ cap ≤ maxLen ∧
    ∀ j x, l[j]? = some x → W.cell? ⟨b, off + j, none⟩ = some (.string x)) ∧ ∀ x ∈ l, x.size ≤ 281474976710656
theorem StrsR.kept {X Y : World} {v : Value} {l : List ByteArray} (h : StrsR X v l) (hk : ∀ r, v.ownBlock = some r → l ≠ [] → Y.heap[r]? = X.heap[r]?) : StrsR Y v l := by
  obtain ⟨h | ⟨b, off, cap, rfl, h1, h2, h3⟩, h4⟩ := h
  · exact ⟨.inl h, h4⟩
  · refine ⟨.inr ⟨b, off, cap, rfl, h1, h2, fun j x hx => ?_⟩, h4⟩
    exact (World.cell?_of_block (a := ⟨b, off + j, none⟩) (hk b rfl (fun e => by subst e; simp at hx))).trans (h3 j x hx)
theorem StrsR.len {X : World} {v : Value} {l : List ByteArray} (h : StrsR X v l) : ∃ p cap, v = .slice p l.length cap := by
  obtain ⟨⟨rfl, p, c, rfl⟩ | ⟨b, off, cap, rfl, _⟩, _⟩ := h
  · exact ⟨p, c, rfl⟩
  · exact ⟨_, _, rfl⟩
theorem StrsR.short {X : World} {v : Value} {l : List ByteArray} (h : StrsR X v l) : l.length ≤ maxLen := by
  obtain ⟨⟨rfl, _⟩ | ⟨b, off, cap, _, h1, h2, _⟩, _⟩ := h
  · exact Nat.zero_le _
  · omega
theorem StrsR.get {X : World} {p : Option Addr} {m cap : Nat} {l : List ByteArray} (h : StrsR X (.slice p m cap) l) {k : Nat} {x : ByteArray} (hk : l[k]? = some x) :
    ∃ b off, p = some ⟨b, off, none⟩ ∧ X.cell? ⟨b, off + k, none⟩ = some (.string x) ∧ x.size ≤ 281474976710656 := by
  obtain ⟨⟨rfl, _⟩ | ⟨b, off, c, e, h1, h2, h⟩, h4⟩ := h
  · simp at hk
  · cases e; exact ⟨b, off, rfl, h k x hk, h4 x (List.mem_of_getElem? hk)⟩
theorem StrsR.lt {X : World} {v : Value} {l : List ByteArray} (h : StrsR X v l) (h0 : l ≠ []) {r : Nat} (hr : v.ownBlock = some r) : r < X.heap.size := by
  obtain ⟨⟨rfl, _⟩ | ⟨b, off, cap, rfl, _, _, h3⟩, _⟩ := h
  · exact absurd rfl h0
  · cases hr
    cases l with
    | nil => exact absurd rfl h0
    | cons x l => exact World.block_lt_of_cell? X ⟨b, off + 0, none⟩ (h3 0 x rfl)
theorem strs_of_row {n : Nat} {X : World} {v : Value} {l : List ByteArray} (h : RowT 1 StrC n X v l) (hs : ∀ x ∈ l, x.size ≤ 281474976710656) : StrsR X v l := by
  refine ⟨?_, hs⟩
  rcases h with ⟨rfl, p, c, rfl⟩ | ⟨b, off, cap, rfl, h1, h2, _, h4⟩
  · exact .inl ⟨rfl, _, _, rfl⟩
  · refine .inr ⟨b, off, cap, rfl, h1, h2, fun j x hx => ?_⟩
    obtain ⟨c, _, rfl, hc⟩ := h4 j x hx
    simpa using hc 0 _ rfl

theorem egHashes : ∀ args w, (callFunc 43 args).run Try.prog w = .ok (.enter 43 args) w := enters_of Try.func43 (by kernel_rfl) rfl
theorem names_split (tag : ByteArray) (ids classes : List ByteArray) : namesV tag ids classes = (if tag = ⟨#[]⟩ then [] else [hashV 1 tag]) ++ (ids.map (hashV 2) ++ classes.map (hashV 3)) := rfl
/-- What the iterator reads. -/
def HashR (Bt Bi Bc : Nat) (vi vc : Value) (ids classes : List ByteArray) (r : Nat) : Prop := r = Bt ∨ r = Bi ∨ r = Bc ∨ (vi.ownBlock = some r ∧ ids ≠ []) ∨ (vc.ownBlock = some r ∧ classes ≠ [])

set_option maxRecDepth 100000 in
set_option maxHeartbeats 3000000 in
theorem hashes_seq (n : Nat) (Bt Bi Bc : Nat) (tag : ByteArray) (vi vc : Value) (ids classes : List ByteArray) (w : World) (ht : tag.size ≤ 281474976710656)
    (cT : w.cell? ⟨Bt, 0, none⟩ = some (.string tag)) (cI : w.cell? ⟨Bi, 0, none⟩ = some vi) (cC : w.cell? ⟨Bc, 0, none⟩ = some vc) (hi : StrsR w vi ids) (hc : StrsR w vc classes) :
    SeqD Fence.wide n Try.prog 43 #[.pointer (some ⟨Bt, 0, none⟩), .pointer (some ⟨Bi, 0, none⟩), .pointer (some ⟨Bc, 0, none⟩)] (fun x : Nat => #[.int .i64 x]) (HashR Bt Bi Bc vi vc ids classes) (namesV tag ids classes) w := by
  intro L J Jx D W hR hs hRD hD hJ hJx hY h0
  have dT : W.cell? ⟨Bt, 0, none⟩ = some (.string tag) := (World.cell?_of_block (a := ⟨Bt, 0, none⟩) (hR Bt (.inl rfl))).trans cT
  have dI : W.cell? ⟨Bi, 0, none⟩ = some vi := (World.cell?_of_block (a := ⟨Bi, 0, none⟩) (hR Bi (.inr (.inl rfl)))).trans cI
  have dC : W.cell? ⟨Bc, 0, none⟩ = some vc := (World.cell?_of_block (a := ⟨Bc, 0, none⟩) (hR Bc (.inr (.inr (.inl rfl))))).trans cC
  have di : StrsR W vi ids := hi.kept (fun r h1 h2 => hR r (.inr (.inr (.inr (.inl ⟨h1, h2⟩)))))
  have dc : StrsR W vc classes := hc.kept (fun r h1 h2 => hR r (.inr (.inr (.inr (.inr ⟨h1, h2⟩)))))
  clear cT cI cC hi hc hR hs
  obtain ⟨pi, capi, rfl⟩ := di.len
  obtain ⟨pc, capc, rfl⟩ := dc.len
  have mi := di.short
  have mc := dc.short
  unfold maxLen at mi mc
  have HY : Hid (∀ pre x post D1 W1, namesV tag ids classes = pre ++ x :: post → J pre D1 W1 → Fr D D1 W W1 → YieldAt Fence.wide (n - 1) Try.prog L #[.int .i64 (x : Nat)] W1 fun e W' =>
      (e = .returned (.bool true) ∧ ∃ D', J (pre ++ [x]) D' W' ∧ Fr D1 D' W1 W') ∨ (e = .returned (.bool false) ∧ ∃ D', Jx (pre ++ [x]) D' W' ∧ Fr D1 D' W1 W')) := hY
  have HD : Hid (∀ r, D r → r < W.heap.size) := hD
  have nT : ¬ D Bt := hRD _ (.inl rfl)
  have nI : ¬ D Bi := hRD _ (.inr (.inl rfl))
  have nC : ¬ D Bc := hRD _ (.inr (.inr (.inl rfl)))
  have Hi : Hid (∀ X E, Fr D E W X → StrsR X (.slice pi ids.length capi) ids) := fun X E fr => di.kept (fun r h1 h2 => fr.block r (di.lt h2 h1) (hRD _ (.inr (.inr (.inr (.inl ⟨h1, h2⟩))))))
  have Hc : Hid (∀ X E, Fr D E W X → StrsR X (.slice pc classes.length capc) classes) := fun X E fr => dc.kept (fun r h1 h2 => fr.block r (dc.lt h2 h1) (hRD _ (.inr (.inr (.inr (.inr ⟨h1, h2⟩))))))
  clear hY hD di dc hRD
  have hh := callsIn_wide (n := n - 1) |>.2 (hash_any 1 tag ht W)
  refine callsIn_of_wp Try.func43 rfl trivial ?_ rfl
  simp only [Try.ntmps43, List.size_toArray, List.length_cons, List.length_nil, Nat.reduceAdd, Nat.reduceSub, Array.replicate_succ, Array.replicate_zero, List.push_toArray, List.append_toArray, List.nil_append, List.cons_append]
  by_cases htag : tag = ⟨#[]⟩
  · have hne : tag.toList.isEmpty = true := by rw [htag, ByteArray.toList_eq]; rfl
    obtain ⟨pre0, hp0⟩ : ∃ pre0 : List Nat, pre0 = [] := ⟨_, rfl⟩
    have HN : Hid (namesV tag ids classes = pre0 ++ (ids.map (hashV 2) ++ classes.map (hashV 3))) := by show _ = _; rw [hp0, names_split, if_pos htag]
    have hJ0 : J pre0 D W := by rw [hp0]; exact h0
    have fr0 : Fr D D W W := Fr.refl HD.out
    obtain ⟨D0, hD0⟩ : ∃ D0, D0 = D := ⟨_, rfl⟩
    rw [← hD0] at hJ0
    have fr0 : Fr D D0 W W := by rw [hD0]; exact fr0
    clear hp0 hD0 htag hh h0
    gi_wp2_with fail
    refine ⟨trivial, ?_⟩
    gi_wp2_with fail
    refine ⟨fun _ h => (by cases h), ?_⟩
    have cI := fr0.keep (p := ⟨Bi, 0, none⟩) nI dI
    gi_wp2_with fail
    gi_loopw [20] (fun x wr => ∃ (k : Nat) (E : Nat → Prop), x = .int .i64 k ∧ k ≤ ids.length ∧ J (pre0 ++ (ids.map (hashV 2)).take k) E wr ∧ Fr D E W wr) (fun x _ => ids.length - (intOf x).toNat)
    case atStart => exact ⟨0, D0, rfl, Nat.zero_le _, (by rw [List.take_zero, List.append_nil]; exact hJ0), fr0⟩
    case round =>
      obtain ⟨k, E, rfl, hk, hJk, frk⟩ := hrel
      have HFk : Hid (Fr D E W wr) := frk
      by_cases hkl : k < ids.length
      · have hlt : decide (k < ids.length) = true := by simpa using hkl
        obtain ⟨x, hx⟩ : ∃ x, ids[k]? = some x := ⟨_, List.getElem?_eq_getElem hkl⟩
        obtain ⟨b, off, rfl, hcell, hxs⟩ := (Hi.out wr E frk).get hx
        have hki : (k : Int) < (ids.length : Int) := by omega
        have hm : (ids.map (hashV 2))[k]? = some (hashV 2 x) := by rw [List.getElem?_map, hx]; rfl
        have htk : (ids.map (hashV 2)).take (k + 1) = (ids.map (hashV 2)).take k ++ [hashV 2 x] := by rw [List.take_add_one, hm]; rfl
        obtain ⟨rest, hrest⟩ : ∃ rest, ids.map (hashV 2) = (ids.map (hashV 2)).take k ++ hashV 2 x :: rest := ⟨(ids.map (hashV 2)).drop (k + 1), by
          have := List.take_append_drop (k + 1) (ids.map (hashV 2))
          rw [htk, List.append_assoc, List.singleton_append] at this
          exact this.symm⟩
        have HT : Hid (_ = _) := htk
        have HE : Hid (∃ post, namesV tag ids classes = (pre0 ++ (ids.map (hashV 2)).take k) ++ hashV 2 x :: post) := ⟨rest ++ classes.map (hashV 3), HN.out.trans ((congrArg (fun z => pre0 ++ (z ++ classes.map (hashV 3))) hrest).trans (by simp))⟩
        have hh2 := callsIn_wide (n := n - 1) |>.2 (hash_any 2 x hxs wr)
        generalize (ids.map (hashV 2)).take k = tk at *
        clear hm htk hrest hx hk frk
        gi_wp2_with fail
        refine ⟨trivial, fun h => (by cases h), ?_⟩
        refine hh2.mono ?_
        clear hh2
        rintro e w2 ⟨rfl, rfl⟩
        obtain ⟨post, hpost⟩ := HE.out
        obtain ⟨fn, tmps, assign, body, hy, hRo⟩ := HY.out (pre0 ++ tk) (hashV 2 x) post E w2 hpost hJk HFk.out
        have HP : Hid (_ = _) := hpost
        clear hpost
        generalize hashV 2 x = hv at *
        gi_wp2_with fail
        refine ⟨fun h => (by cases h), hRo.mono ?_⟩
        clear hRo hy hcell
        rintro e w3 (⟨rfl, E', hJ', fr'⟩ | ⟨rfl, E', hJ', fr'⟩)
        · gi_wp2
          go_roundw
          case rel => exact ⟨k + 1, E', by go_num, by omega, (by rw [HT.out, ← List.append_assoc]; exact hJ'), HFk.out.trans fr'⟩
          case measure => simp [intOf] <;> omega
        · gi_wp2
          refine bodyPost_ret (results_none rfl _ _ _) rfl ?_
          exact ⟨⟨_, rfl⟩, E', HFk.out.trans fr', .inr ⟨_, _, _, HP.out, hJ'⟩⟩
      · have hlt : decide (k < ids.length) = false := by simpa using hkl
        obtain rfl : k = ids.length := by omega
        rw [show (ids.map (hashV 2)).take ids.length = ids.map (hashV 2) from List.take_of_length_le (by simp)] at hJk
        clear hk hkl frk
        have cC := HFk.out.keep (p := ⟨Bc, 0, none⟩) nC dC
        obtain ⟨pre1, hp1⟩ : ∃ pre1, pre1 = pre0 ++ ids.map (hashV 2) := ⟨_, rfl⟩
        have hJ1 : J pre1 E wr := by rw [hp1]; exact hJk
        have HP1 : Hid (_ = _) := hp1
        clear hp1 hJk
        obtain ⟨wo, hwo⟩ : ∃ wo, wo = wr := ⟨_, rfl⟩
        subst hwo
        gi_wp2_with fail
        gi_loopw [32] (fun x wr => ∃ (k : Nat) (E : Nat → Prop), x = .int .i64 k ∧ k ≤ classes.length ∧ J (pre1 ++ (classes.map (hashV 3)).take k) E wr ∧ Fr D E W wr) (fun x _ => classes.length - (intOf x).toNat)
        case atStart => exact ⟨0, E, rfl, Nat.zero_le _, (by rw [List.take_zero, List.append_nil]; exact hJ1), HFk.out⟩
        case round =>
          obtain ⟨k, E, rfl, hk, hJk, frk⟩ := hrel
          have HFk : Hid (Fr D E W wr) := frk
          by_cases hkl : k < classes.length
          · have hlt : decide (k < classes.length) = true := by simpa using hkl
            obtain ⟨x, hx⟩ : ∃ x, classes[k]? = some x := ⟨_, List.getElem?_eq_getElem hkl⟩
            obtain ⟨b, off, rfl, hcell, hxs⟩ := (Hc.out wr E frk).get hx
            have hki : (k : Int) < (classes.length : Int) := by omega
            have hm : (classes.map (hashV 3))[k]? = some (hashV 3 x) := by rw [List.getElem?_map, hx]; rfl
            have htk : (classes.map (hashV 3)).take (k + 1) = (classes.map (hashV 3)).take k ++ [hashV 3 x] := by rw [List.take_add_one, hm]; rfl
            obtain ⟨rest, hrest⟩ : ∃ rest, classes.map (hashV 3) = (classes.map (hashV 3)).take k ++ hashV 3 x :: rest := ⟨(classes.map (hashV 3)).drop (k + 1), by
              have := List.take_append_drop (k + 1) (classes.map (hashV 3))
              rw [htk, List.append_assoc, List.singleton_append] at this
              exact this.symm⟩
            have HT : Hid (_ = _) := htk
            have HE : Hid (∃ post, namesV tag ids classes = (pre1 ++ (classes.map (hashV 3)).take k) ++ hashV 3 x :: post) := ⟨rest, HN.out.trans ((congrArg (fun z => pre0 ++ (ids.map (hashV 2) ++ z)) hrest).trans (by rw [show pre1 = pre0 ++ ids.map (hashV 2) from HP1.out]; simp))⟩
            have hh2 := callsIn_wide (n := n - 1) |>.2 (hash_any 3 x hxs wr)
            generalize (classes.map (hashV 3)).take k = tk at *
            clear hm htk hrest hx hk frk
            gi_wp2_with fail
            refine ⟨trivial, fun h => (by cases h), ?_⟩
            refine hh2.mono ?_
            clear hh2
            rintro e w2 ⟨rfl, rfl⟩
            obtain ⟨post, hpost⟩ := HE.out
            obtain ⟨fn, tmps, assign, body, hy, hRo⟩ := HY.out (pre1 ++ tk) (hashV 3 x) post E w2 hpost hJk HFk.out
            have HP : Hid (_ = _) := hpost
            clear hpost
            generalize hashV 3 x = hv at *
            gi_wp2_with fail
            refine ⟨fun h => (by cases h), hRo.mono ?_⟩
            clear hRo hy hcell
            rintro e w3 (⟨rfl, E', hJ', fr'⟩ | ⟨rfl, E', hJ', fr'⟩)
            · gi_wp2
              go_roundw
              case rel => exact ⟨k + 1, E', by go_num, by omega, (by rw [HT.out, ← List.append_assoc]; exact hJ'), HFk.out.trans fr'⟩
              case measure => simp [intOf] <;> omega
            · gi_wp2
              refine bodyPost_ret (results_none rfl _ _ _) rfl ?_
              exact ⟨⟨_, rfl⟩, E', HFk.out.trans fr', .inr ⟨_, _, _, HP.out, hJ'⟩⟩
          · have hlt : decide (k < classes.length) = false := by simpa using hkl
            obtain rfl : k = classes.length := by omega
            rw [show (classes.map (hashV 3)).take classes.length = classes.map (hashV 3) from List.take_of_length_le (by simp)] at hJk
            clear hk hkl frk
            have FIN : Hid (J (namesV tag ids classes) E wr) := by show J _ _ _; rw [HN.out, ← List.append_assoc, show pre0 ++ ids.map (hashV 2) = pre1 from HP1.out.symm]; exact hJk
            gi_wp2
            go_end0
            exact ⟨⟨_, rfl⟩, E, HFk.out, .inl FIN.out⟩

  · have hne := bytes_nil htag
    obtain ⟨fn, tmps, assign, body, hy, hRo⟩ := HY.out [] (hashV 1 tag) (ids.map (hashV 2) ++ classes.map (hashV 3)) D W (by rw [names_split, if_neg htag]; rfl) h0 (Fr.refl HD.out)
    have HN0 : Hid (namesV tag ids classes = ([] ++ [hashV 1 tag]) ++ (ids.map (hashV 2) ++ classes.map (hashV 3))) := by show _ = _; rw [names_split, if_neg htag]; rfl
    clear htag
    gi_wp2_with fail
    refine ⟨trivial, fun h => (by cases h), ?_⟩
    refine hh.mono ?_
    clear hh
    rintro e w2 ⟨rfl, hw2⟩
    obtain rfl := hw2.symm
    gi_wp2_with fail
    refine ⟨fun h => (by cases h), hRo.mono ?_⟩
    clear hRo hy
    rintro e X (⟨rfl, D0, hJ0, fr0⟩ | ⟨rfl, D0, hJ0, fr0⟩)
    · obtain ⟨pre0, hp0⟩ : ∃ pre0 : List Nat, pre0 = [] ++ [hashV 1 tag] := ⟨_, rfl⟩
      rw [← hp0] at hJ0
      have HN : Hid (namesV tag ids classes = pre0 ++ (ids.map (hashV 2) ++ classes.map (hashV 3))) := by show _ = _; rw [hp0]; exact HN0.out
      clear hp0 HN0 h0
      have cI := fr0.keep (p := ⟨Bi, 0, none⟩) nI dI
      gi_wp2_with fail
      gi_loopw [20] (fun x wr => ∃ (k : Nat) (E : Nat → Prop), x = .int .i64 k ∧ k ≤ ids.length ∧ J (pre0 ++ (ids.map (hashV 2)).take k) E wr ∧ Fr D E W wr) (fun x _ => ids.length - (intOf x).toNat)
      case atStart => exact ⟨0, D0, rfl, Nat.zero_le _, (by rw [List.take_zero, List.append_nil]; exact hJ0), fr0⟩
      case round =>
        obtain ⟨k, E, rfl, hk, hJk, frk⟩ := hrel
        have HFk : Hid (Fr D E W wr) := frk
        by_cases hkl : k < ids.length
        · have hlt : decide (k < ids.length) = true := by simpa using hkl
          obtain ⟨x, hx⟩ : ∃ x, ids[k]? = some x := ⟨_, List.getElem?_eq_getElem hkl⟩
          obtain ⟨b, off, rfl, hcell, hxs⟩ := (Hi.out wr E frk).get hx
          have hki : (k : Int) < (ids.length : Int) := by omega
          have hm : (ids.map (hashV 2))[k]? = some (hashV 2 x) := by rw [List.getElem?_map, hx]; rfl
          have htk : (ids.map (hashV 2)).take (k + 1) = (ids.map (hashV 2)).take k ++ [hashV 2 x] := by rw [List.take_add_one, hm]; rfl
          obtain ⟨rest, hrest⟩ : ∃ rest, ids.map (hashV 2) = (ids.map (hashV 2)).take k ++ hashV 2 x :: rest := ⟨(ids.map (hashV 2)).drop (k + 1), by
            have := List.take_append_drop (k + 1) (ids.map (hashV 2))
            rw [htk, List.append_assoc, List.singleton_append] at this
            exact this.symm⟩
          have HT : Hid (_ = _) := htk
          have HE : Hid (∃ post, namesV tag ids classes = (pre0 ++ (ids.map (hashV 2)).take k) ++ hashV 2 x :: post) := ⟨rest ++ classes.map (hashV 3), HN.out.trans ((congrArg (fun z => pre0 ++ (z ++ classes.map (hashV 3))) hrest).trans (by simp))⟩
          have hh2 := callsIn_wide (n := n - 1) |>.2 (hash_any 2 x hxs wr)
          generalize (ids.map (hashV 2)).take k = tk at *
          clear hm htk hrest hx hk frk
          gi_wp2_with fail
          refine ⟨trivial, fun h => (by cases h), ?_⟩
          refine hh2.mono ?_
          clear hh2
          rintro e w2 ⟨rfl, rfl⟩
          obtain ⟨post, hpost⟩ := HE.out
          obtain ⟨fn, tmps, assign, body, hy, hRo⟩ := HY.out (pre0 ++ tk) (hashV 2 x) post E w2 hpost hJk HFk.out
          have HP : Hid (_ = _) := hpost
          clear hpost
          generalize hashV 2 x = hv at *
          gi_wp2_with fail
          refine ⟨fun h => (by cases h), hRo.mono ?_⟩
          clear hRo hy hcell
          rintro e w3 (⟨rfl, E', hJ', fr'⟩ | ⟨rfl, E', hJ', fr'⟩)
          · gi_wp2
            go_roundw
            case rel => exact ⟨k + 1, E', by go_num, by omega, (by rw [HT.out, ← List.append_assoc]; exact hJ'), HFk.out.trans fr'⟩
            case measure => simp [intOf] <;> omega
          · gi_wp2
            refine bodyPost_ret (results_none rfl _ _ _) rfl ?_
            exact ⟨⟨_, rfl⟩, E', HFk.out.trans fr', .inr ⟨_, _, _, HP.out, hJ'⟩⟩
        · have hlt : decide (k < ids.length) = false := by simpa using hkl
          obtain rfl : k = ids.length := by omega
          rw [show (ids.map (hashV 2)).take ids.length = ids.map (hashV 2) from List.take_of_length_le (by simp)] at hJk
          clear hk hkl frk
          have cC := HFk.out.keep (p := ⟨Bc, 0, none⟩) nC dC
          obtain ⟨pre1, hp1⟩ : ∃ pre1, pre1 = pre0 ++ ids.map (hashV 2) := ⟨_, rfl⟩
          have hJ1 : J pre1 E wr := by rw [hp1]; exact hJk
          have HP1 : Hid (_ = _) := hp1
          clear hp1 hJk
          obtain ⟨wo, hwo⟩ : ∃ wo, wo = wr := ⟨_, rfl⟩
          subst hwo
          gi_wp2_with fail
          gi_loopw [32] (fun x wr => ∃ (k : Nat) (E : Nat → Prop), x = .int .i64 k ∧ k ≤ classes.length ∧ J (pre1 ++ (classes.map (hashV 3)).take k) E wr ∧ Fr D E W wr) (fun x _ => classes.length - (intOf x).toNat)
          case atStart => exact ⟨0, E, rfl, Nat.zero_le _, (by rw [List.take_zero, List.append_nil]; exact hJ1), HFk.out⟩
          case round =>
            obtain ⟨k, E, rfl, hk, hJk, frk⟩ := hrel
            have HFk : Hid (Fr D E W wr) := frk
            by_cases hkl : k < classes.length
            · have hlt : decide (k < classes.length) = true := by simpa using hkl
              obtain ⟨x, hx⟩ : ∃ x, classes[k]? = some x := ⟨_, List.getElem?_eq_getElem hkl⟩
              obtain ⟨b, off, rfl, hcell, hxs⟩ := (Hc.out wr E frk).get hx
              have hki : (k : Int) < (classes.length : Int) := by omega
              have hm : (classes.map (hashV 3))[k]? = some (hashV 3 x) := by rw [List.getElem?_map, hx]; rfl
              have htk : (classes.map (hashV 3)).take (k + 1) = (classes.map (hashV 3)).take k ++ [hashV 3 x] := by rw [List.take_add_one, hm]; rfl
              obtain ⟨rest, hrest⟩ : ∃ rest, classes.map (hashV 3) = (classes.map (hashV 3)).take k ++ hashV 3 x :: rest := ⟨(classes.map (hashV 3)).drop (k + 1), by
                have := List.take_append_drop (k + 1) (classes.map (hashV 3))
                rw [htk, List.append_assoc, List.singleton_append] at this
                exact this.symm⟩
              have HT : Hid (_ = _) := htk
              have HE : Hid (∃ post, namesV tag ids classes = (pre1 ++ (classes.map (hashV 3)).take k) ++ hashV 3 x :: post) := ⟨rest, HN.out.trans ((congrArg (fun z => pre0 ++ (ids.map (hashV 2) ++ z)) hrest).trans (by rw [show pre1 = pre0 ++ ids.map (hashV 2) from HP1.out]; simp))⟩
              have hh2 := callsIn_wide (n := n - 1) |>.2 (hash_any 3 x hxs wr)
              generalize (classes.map (hashV 3)).take k = tk at *
              clear hm htk hrest hx hk frk
              gi_wp2_with fail
              refine ⟨trivial, fun h => (by cases h), ?_⟩
              refine hh2.mono ?_
              clear hh2
              rintro e w2 ⟨rfl, rfl⟩
              obtain ⟨post, hpost⟩ := HE.out
              obtain ⟨fn, tmps, assign, body, hy, hRo⟩ := HY.out (pre1 ++ tk) (hashV 3 x) post E w2 hpost hJk HFk.out
              have HP : Hid (_ = _) := hpost
              clear hpost
              generalize hashV 3 x = hv at *
              gi_wp2_with fail
              refine ⟨fun h => (by cases h), hRo.mono ?_⟩
              clear hRo hy hcell
              rintro e w3 (⟨rfl, E', hJ', fr'⟩ | ⟨rfl, E', hJ', fr'⟩)
              · gi_wp2
                go_roundw
                case rel => exact ⟨k + 1, E', by go_num, by omega, (by rw [HT.out, ← List.append_assoc]; exact hJ'), HFk.out.trans fr'⟩
                case measure => simp [intOf] <;> omega
              · gi_wp2
                refine bodyPost_ret (results_none rfl _ _ _) rfl ?_
                exact ⟨⟨_, rfl⟩, E', HFk.out.trans fr', .inr ⟨_, _, _, HP.out, hJ'⟩⟩
            · have hlt : decide (k < classes.length) = false := by simpa using hkl
              obtain rfl : k = classes.length := by omega
              rw [show (classes.map (hashV 3)).take classes.length = classes.map (hashV 3) from List.take_of_length_le (by simp)] at hJk
              clear hk hkl frk
              have FIN : Hid (J (namesV tag ids classes) E wr) := by show J _ _ _; rw [HN.out, ← List.append_assoc, show pre0 ++ ids.map (hashV 2) = pre1 from HP1.out.symm]; exact hJk
              gi_wp2
              go_end0
              exact ⟨⟨_, rfl⟩, E, HFk.out, .inl FIN.out⟩

    · gi_wp2
      refine bodyPost_ret (results_none rfl _ _ _) rfl ?_
      exact ⟨⟨_, rfl⟩, D0, fr0, .inr ⟨[], hashV 1 tag, ids.map (hashV 2) ++ classes.map (hashV 3), HN0.out, hJ0⟩⟩

end Go.Proofs.Ytiaikkbmgnaikaa.Bl
