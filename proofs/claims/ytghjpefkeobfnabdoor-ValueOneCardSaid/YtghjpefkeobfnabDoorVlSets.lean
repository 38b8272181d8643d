/- package value: Sets, at every slice of declarations. -/
import Derived.Test.YtghjpefkeobfnabDoorVlProp
namespace Go.Proofs.YtghjpefkeobfnabDoor.Vl
open Go Go.RowKit

/-- A declaration that came in: its value's slice with the tokens that it holds. -/
structure Dl where
  name : ByteArray
  val : List Bt
  v : Value
  imp : Bool
def DlAt (n₀ : Nat) (W : World) (bk o : Nat) (d : Dl) : Prop :=
  W.cell? ⟨bk, o, none⟩ = some (.string d.name) ∧ W.cell? ⟨bk, o + 1, none⟩ = some d.v ∧ W.cell? ⟨bk, o + 2, none⟩ = some (.bool d.imp) ∧ BtsAt n₀ W d.v d.val
/-- THE SLICE VALUE v HOLDS THE DECLARATIONS ds, all in blocks below n₀. -/
def DlsAt (n₀ : Nat) (W : World) (v : Value) (ds : List Dl) : Prop :=
  (ds = [] ∧ (v = .slice none 0 0 ∨ ∃ x cap, v = .slice (some x) 0 cap ∧ cap ≤ maxLen)) ∨ ∃ bk off cap, v = .slice (some ⟨bk, off, none⟩) ds.length cap ∧ ds.length ≤ cap ∧ cap ≤ maxLen ∧ bk < n₀ ∧ ∀ j d, ds[j]? = some d → DlAt n₀ W bk (off + j * 3) d
theorem DlAt.below {n₀ : Nat} {X Y : World} {bk o : Nat} {d : Dl} (h : DlAt n₀ X bk o d) (hb : Below n₀ X Y) (hbk : bk < n₀) : DlAt n₀ Y bk o d := by
  obtain ⟨h0, h1, h2, h3⟩ := h
  exact ⟨(hb.cell (p := ⟨bk, _, none⟩) hbk).trans h0, (hb.cell (p := ⟨bk, _, none⟩) hbk).trans h1, (hb.cell (p := ⟨bk, _, none⟩) hbk).trans h2, h3.below hb⟩
theorem DlsAt.below {n₀ : Nat} {X Y : World} {v : Value} {l : List Dl} (h : DlsAt n₀ X v l) (hb : Below n₀ X Y) : DlsAt n₀ Y v l := by
  rcases h with h | ⟨bk, off, cap, rfl, h1, h2, hbk, h⟩
  · exact .inl h
  · exact .inr ⟨bk, off, cap, rfl, h1, h2, hbk, fun j t hj => (h j t hj).below hb hbk⟩
theorem DlsAt.mono {n₀ n₁ : Nat} {X : World} {v : Value} {l : List Dl} (h : DlsAt n₀ X v l) (hn : n₀ ≤ n₁) : DlsAt n₁ X v l := by
  rcases h with h | ⟨bk, off, cap, rfl, h1, h2, hbk, h⟩
  · exact .inl h
  · exact .inr ⟨bk, off, cap, rfl, h1, h2, by omega, fun j d hj => ⟨(h j d hj).1, (h j d hj).2.1, (h j d hj).2.2.1, (h j d hj).2.2.2.mono hn⟩⟩
theorem DlsAt.next {X Y : World} {v : Value} {l : List Dl} (h : DlsAt X.heap.size X v l) (hb : Below X.heap.size X Y) : DlsAt Y.heap.size Y v l := (h.below hb).mono hb.size
theorem DlsAt.len {n₀ : Nat} {X : World} {v : Value} {l : List Dl} (h : DlsAt n₀ X v l) : ∃ p cap, v = .slice p l.length cap := by
  rcases h with ⟨rfl, rfl | ⟨x, cap, rfl, _⟩⟩ | ⟨bk, off, cap, rfl, _⟩
  · exact ⟨_, _, rfl⟩
  · exact ⟨_, _, rfl⟩
  · exact ⟨_, _, rfl⟩
theorem DlsAt.short {n₀ : Nat} {X : World} {v : Value} {l : List Dl} (h : DlsAt n₀ X v l) : l.length ≤ 9223372036854775807 := by
  rcases h with ⟨rfl, _⟩ | ⟨bk, off, cap, _, h1, h2, _⟩
  · simp
  · unfold maxLen at h2
    omega
theorem DlsAt.get {n₀ : Nat} {X : World} {p : Option Addr} {n cap : Nat} {l : List Dl} (h : DlsAt n₀ X (.slice p n cap) l) {k : Nat} {t : Dl} (hk : l[k]? = some t) : ∃ bk off, p = some ⟨bk, off, none⟩ ∧ bk < n₀ ∧ l.length ≤ cap ∧ cap ≤ maxLen ∧ DlAt n₀ X bk (off + k * 3) t := by
  rcases h with ⟨rfl, _⟩ | ⟨bk, off, c, e, h1, h2, hb, h⟩
  · simp at hk
  · cases e
    exact ⟨bk, off, rfl, hb, h1, h2, h k t hk⟩

/-- What is set: the property, the value's kind and number, whether it is important. -/
abbrev Sv := Int × Int × Int × Bool
def svCells (s : Sv) : List Value := [.int .i64 s.1, .int .i64 s.2.1, .int .i64 s.2.2.1, .bool s.2.2.2]
def setOf (d : Dl) : Option Sv := if (propV d.name.data.toList).2 then (if (parseV (propV d.name.data.toList).1 d.val).2.2 then some ((propV d.name.data.toList).1, (parseV (propV d.name.data.toList).1 d.val).1, (parseV (propV d.name.data.toList).1 d.val).2.1, d.imp) else none) else none
def setsV (ds : List Dl) : List Sv := ds.filterMap setOf
theorem setsV_len (ds : List Dl) : (setsV ds).length ≤ ds.length := List.length_filterMap_le _ _
theorem setsV_drop {ds : List Dl} {k : Nat} {d : Dl} (h : ds[k]? = some d) : setsV (ds.drop k) = (setOf d).toList ++ setsV (ds.drop (k + 1)) := by
  obtain ⟨hk, rfl⟩ := List.getElem?_eq_some_iff.1 h
  rw [List.drop_eq_getElem_cons hk]
  unfold setsV
  rw [List.filterMap_cons]
  cases setOf ds[k] <;> rfl
theorem grown_of_below {w w' : World} (h : Below w.heap.size w w') (row : Option Nat) : w.grownBy w' row := ⟨h.os, h.tape, h.output, h.size, fun i hi _ => h.block i hi⟩
theorem no_block (x : Value) : x.ownBlock = none ∨ x.ownBlock ≠ none := by
  cases x.ownBlock with
  | none => exact .inl rfl
  | some j => exact .inr (by simp)
theorem cells_new (w : World) (l : List Value) (ty : TypeId) : ∀ j u, l[j]? = some u → (w.alloc (.cells l.toArray ty)).cell? ((⟨w.heap.size, 0, none⟩ : Addr).add j) = some u := fun j u hj => by
  rw [addr_add, Nat.zero_add, cell_of_block (heap_alloc_new w _) j]
  simpa using hj
theorem infoSet : (Tryd.prog.info? 42).map (fun i => (i.zero, i.size, i.bytes)) = some (some (.agg #[.int .i64 0, .int .i64 0, .int .i64 0, .bool false]), 4, 32) := by kernel_rfl

/-- The slice of what is set, in a block of its own from b on. -/
def SetsIn (b : Nat) (W : World) (v : Value) (qs : List Sv) : Prop := W.ownsRow b 42 4 v qs.length (qs.flatMap svCells)
theorem SetsIn.keep {b : Nat} {W W' : World} {v : Value} {qs : List Sv} (h : SetsIn b W v qs) (hb : Below W.heap.size W W') : SetsIn b W' v qs := World.ownsRow.kept h (grown_of_below hb none) (no_block _)
theorem SetsIn.form {b : Nat} {W : World} {v : Value} {qs : List Sv} (h : SetsIn b W v qs) : ∃ q c, v = .slice q qs.length c := by
  rcases h.2 with ⟨rfl, h0⟩ | ⟨g, cap, cur, rfl, _⟩
  · exact ⟨none, 0, by rw [h0]⟩
  · exact ⟨_, _, rfl⟩

set_option maxRecDepth 100000 in
set_option maxHeartbeats 4000000 in
theorem sets_any (v : Value) (ds : List Dl) (w : World) (hT : Tabs7 w.heap.size w) (hv : DlsAt w.heap.size w v ds) (ht : ∀ d ∈ ds, ∀ t ∈ d.val, t.text.size ≤ maxLen) (hl : ds.length ≤ 1000) :
    Calls Tryd.prog 8 #[v] w fun e w' => ∃ v', e = .returned v' ∧ SetsIn w.heap.size w' v' (setsV ds) ∧ Below w.heap.size w w' := by
  obtain ⟨i0, hi, hz0, hz1, hz2⟩ := info_parts infoSet
  obtain ⟨q, cap, rfl⟩ := hv.len
  have HT : Hid (∀ d ∈ ds, ∀ t ∈ d.val, t.text.size ≤ maxLen) := ht
  clear ht
  obtain ⟨A, hA⟩ : ∃ A, setsV ds = A := ⟨_, rfl⟩
  have hAl := setsV_len ds
  rw [hA] at hAl ⊢
  go_enter Tryd.func8, Tryd.ntmps8
  go_wp2
  go_loopw [3, 12] (fun o i wr => ∃ (k : Nat) (qs : List Sv) (v0 : Value), i = .int .i64 k ∧ o = v0 ∧ k ≤ ds.length ∧ qs.length ≤ k ∧ SetsIn w.heap.size wr v0 qs ∧ Hid (qs ++ setsV (ds.drop k) = A) ∧ Below w.heap.size w wr) (fun _ i _ => ds.length - (intOf i).toNat)
  case atStart => exact ⟨0, [], _, rfl, rfl, Nat.zero_le _, by simp, World.ownsRow_nil _ _ _ _, hA, Below.refl _ _⟩
  case round =>
    obtain ⟨k, qs, v0, rfl, rfl, hk, hqk, hR, HA, hbw⟩ := hrel
    clear hA
    have hTr := hT.next hbw
    have hvr := hv.next hbw
    obtain ⟨q0, c0, rfl⟩ := hR.form
    by_cases hlt : k < ds.length
    · have hki : (k : Int) < (ds.length : Int) := by omega
      have hdk : ds[k]? = some ds[k] := List.getElem?_eq_getElem hlt
      have htd := (show ∀ d ∈ ds, ∀ t ∈ d.val, t.text.size ≤ maxLen from HT) ds[k] (List.getElem_mem hlt)
      obtain ⟨bk, off, rfl, hbk, _, _, x0, x1, x2, hbt⟩ := hvr.get hdk
      have HA2 : qs ++ ((setOf ds[k]).toList ++ setsV (ds.drop (k + 1))) = A := by
        rw [← setsV_drop hdk]
        exact HA
      unfold setOf at HA2
      clear HA hdk
      generalize ds[k] = d at *
      obtain ⟨name, val, dv, imp⟩ := d
      simp only at htd x0 x1 x2 hbt HA2
      obtain ⟨qd, cd, rfl⟩ := hbt.len
      have bD : Below wr.heap.size wr (wr.alloc (.cells #[.string name, .slice qd val.length cd, .bool imp] 38)) := (Below.refl _ _).alloc (Nat.le_refl _) _
      have kD : Blk (wr.alloc (.cells #[.string name, .slice qd val.length cd, .bool imp] 38)) wr.heap.size _ _ := Blk.new wr 38 [.string name, .slice qd val.length cd, .bool imp]
      have hTD := hTr.next bD
      have hbtD := hbt.next bD
      have hRD := hR.keep bD
      have hbD := below_next hbw bD
      clear hTr hvr hbt hR
      have hp := prop_any name _ hTD.2
      obtain ⟨pn, ok, hV⟩ : ∃ pn ok, propV name.data.toList = (pn, ok) := ⟨_, _, rfl⟩
      rw [hV] at hp HA2
      simp only at hp HA2
      clear hV
      go_upto_region 5 with fail
      generalize wr.alloc (.cells #[.string name, .slice qd val.length cd, .bool imp] 38) = w1 at *
      obtain ⟨⟨y0, y1, y2⟩, _⟩ := blk3 kD
      have hs1 := hbD.size
      go_wp2_with fail
      refine hp.mono ?_
      clear hp x0 x1 x2
      rintro e w1' ⟨rfl, rfl⟩
      cases ok with
      | false =>
        have HA3 : Hid (qs ++ setsV (ds.drop (k + 1)) = A) := by unfold Hid; simpa using HA2
        clear HA2
        go_wp2
        exact ⟨⟨k + 1, qs, _, by go_num, rfl, by omega, by omega, hRD, HA3, hbD⟩, by simp [intOf]; omega⟩
      | true =>
        have hpa := parse_any pn _ val _ hTD.1 hbtD htd
        simp only [if_true] at HA2
        obtain ⟨v1, v2, v3, hV⟩ : ∃ v1 v2 v3, parseV pn val = (v1, v2, v3) := ⟨_, _, _, rfl⟩
        rw [hV] at hpa HA2
        simp only at HA2
        unfold ret at hpa
        simp only at hpa
        clear hV htd
        go_wp2_with fail
        refine hpa.mono ?_
        clear hpa
        rintro e w2 ⟨rfl, b2⟩
        have kD2 := kD.below b2 kD.lt
        have hRD2 := hRD.keep b2
        have hb2 := below_next hbD b2
        have bE : Below w2.heap.size w2 (w2.alloc (.cells #[.int .i64 v1, .int .i64 v2] 26)) := (Below.refl _ _).alloc (Nat.le_refl _) _
        have kE : Blk (w2.alloc (.cells #[.int .i64 v1, .int .i64 v2] 26)) w2.heap.size _ _ := Blk.new w2 26 [.int .i64 v1, .int .i64 v2]
        have kD3 := kD2.below bE kD2.lt
        have hRD3 := hRD2.keep bE
        have hb3 := below_next hb2 bE
        clear hRD hRD2 y0 y1 y2 hTD hbtD
        cases v3 with
        | false =>
          have HA3 : Hid (qs ++ setsV (ds.drop (k + 1)) = A) := by unfold Hid; simpa using HA2
          clear HA2 kD3 kE
          go_wp2
          exact ⟨⟨k + 1, qs, _, by go_num, rfl, by omega, by omega, hRD3, HA3, hb3⟩, by simp [intOf]; omega⟩
        | true =>
          have HA3 : Hid ((qs ++ [(pn, v1, v2, imp)]) ++ setsV (ds.drop (k + 1)) = A) := by unfold Hid; simpa using HA2
          clear HA2
          obtain ⟨⟨y0, y1, y2⟩, _⟩ := blk3 kD3
          obtain ⟨⟨z0, z1⟩, _⟩ := blk2 kE
          have hs2 := hb2.size
          go_upto_region 9 with fail
          generalize w2.alloc (.cells #[.int .i64 v1, .int .i64 v2] 26) = w3 at *
          have HC := cells_new w3 [.int .i64 pn, .int .i64 v1, .int .i64 v2, .bool imp] 42
          have hs3 := hb3.size
          have hR4 : (w3.alloc (.cells #[.int .i64 pn, .int .i64 v1, .int .i64 v2, .bool imp] 42)).ownsRow w.heap.size 42 4 (.slice q0 qs.length c0) qs.length (qs.flatMap svCells) := World.ownsRow.alloc hRD3 _
          go_wp2_with (at_builtin; refine wpList_append_own _ rfl _ _ 35 rfl w.heap.size 42 i0 (.agg #[.int .i64 0, .int .i64 0, .int .i64 0, .bool false]) 4 32 Tryd.underlying35 hi hz0 hz1 hz2 rfl (by decide) _ _ _ rfl hR4 _ 1 1 [.int .i64 pn, .int .i64 v1, .int .i64 v2, .bool imp] rfl rfl HC (fun u hu => by simp at hu; rcases hu with rfl | rfl | rfl | rfl <;> rfl) (by unfold maxLen; omega) (by omega) (by rw [World.size_alloc]; omega) ?_; intro v7 w7 hown7 hgrow7 hnil7)
          have hR7 : SetsIn w.heap.size w7 v7 (qs ++ [(pn, v1, v2, imp)]) := by
            unfold SetsIn
            rw [List.length_append, List.flatMap_append]
            simpa [svCells] using hown7
          have hB7 := (hb3.alloc hs3 _).grown hgrow7 (by rw [World.size_alloc]; omega) (fun j e => (World.ownsRow.lt hR4 j e).1)
          go_wp2
          exact ⟨⟨k + 1, qs ++ [(pn, v1, v2, imp)], _, by go_num, rfl, by omega, by simp; omega, hR7, HA3, hB7⟩, by simp [intOf]; omega⟩
    · have hki : ¬ (k : Int) < (ds.length : Int) := by omega
      obtain rfl : qs = A := by
        have := HA
        unfold Hid at this
        rw [List.drop_eq_nil_of_le (by omega)] at this
        simpa [setsV] using this
      clear HA
      go_wp2
      go_ret
      exact ⟨_, rfl, hR, hbw⟩

end Go.Proofs.YtghjpefkeobfnabDoor.Vl
