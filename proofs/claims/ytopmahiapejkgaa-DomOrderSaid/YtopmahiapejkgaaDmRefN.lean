/- The document's own tree in memory; its New, at every slice of nodes. -/
import Derived.Test.YtopmahiapejkgaaDmRef
import Derived.Test.YtopmahiapejkgaaDmAlive
namespace Go.Proofs.Ytopmahiapejkgaa.Dm
open Go Go.RowKit

/-- Block tb is the document's own Tree: its nodes ns (lowered), their depths ds. -/
structure RTr (b : Nat) (W : World) (tb : Nat) (nv dv : Value) (ns : List Nv) (ds : List Int) : Prop where
  blk : Blk W tb 49 [nv, dv]
  low : b ≤ tb
  row : W.ownsRow b 31 5 nv ns.length (ns.flatMap nvCells)
  cls : ∀ n ∈ ns, StrRow b W n.cv n.nd.cls
  ats : ∀ n ∈ ns, PairRow b W n.av n.nd.ats
  dep : IntRow b W dv ds
theorem RTr.kept {keep : Nat → Prop} {b : Nat} {W W' : World} {tb : Nat} {nv dv : Value} {ns : List Nv} {ds : List Int} (h : RTr b W tb nv dv ns ds) (hk : Kept keep W W') (hb : ∀ k, b ≤ k → k < W.heap.size → keep k) : RTr b W' tb nv dv ns ds := by
  have same : ∀ {e : TypeId} {s : Nat} {v : Value} {n : Nat} {xs : List Value}, W.ownsRow b e s v n xs → W'.ownsRow b e s v n xs := fun hr => owns_same hr (fun g hg => hk.block g (owns_lt hr hg).2 (hb g (owns_lt hr hg).1 (owns_lt hr hg).2))
  exact ⟨hk.blk h.blk (hb _ h.low h.blk.lt), h.low, same h.row, fun n hn => same (h.cls n hn), fun n hn => same (h.ats n hn), same h.dep⟩
theorem RTr.next {b : Nat} {W W' : World} {tb : Nat} {nv dv : Value} {ns : List Nv} {ds : List Int} (h : RTr b W tb nv dv ns ds) (hb : Below W.heap.size W W') : RTr b W' tb nv dv ns ds := h.kept (keep := fun _ => True) (.of_below hb) (fun _ _ _ => trivial)
/-- One node more: behind the append and the store. -/
theorem RTr.pushN {b : Nat} {W X w7 : World} {tb : Nat} {nv dv v' : Value} {ns : List Nv} {ds : List Int} {n : Nv} (h : RTr b W tb nv dv ns ds) (hX : Below W.heap.size W X)
    (hc : StrRow W.heap.size X n.cv n.nd.cls) (ha : PairRow W.heap.size X n.av n.nd.ats) (hr : w7.ownsRow b 31 5 v' (ns.length + 1) (ns.flatMap nvCells ++ nvCells n)) (hg : X.grownBy w7 nv.ownBlock) :
    RTr b (w7.setCell ⟨tb, 0, none⟩ v') tb v' dv (ns ++ [n]) ds := by
  have hA := h.next hX
  have hb : b ≤ W.heap.size := Nat.le_trans h.low (Nat.le_of_lt h.blk.lt)
  have gs := grown_set w7 tb 0 v'
  have blk2 := hA.blk.kept hg (fun e => row_blk (e := 31) (t := 49) (by decide) hA.row hA.blk e.symm)
  have both : ∀ {e : TypeId} {s : Nat} {v : Value} {n : Nat} {xs : List Value}, e ≠ 31 → e ≠ 49 → X.ownsRow b e s v n xs → (w7.setCell ⟨tb, 0, none⟩ v').ownsRow b e s v n xs := fun he he' hx => by
    have h1 := hx.kept hg (rows_apart he hx hA.row)
    exact h1.kept gs (.inr (row_blk he' h1 blk2))
  refine ⟨blk_put blk2 0 v', h.low, ?_, fun m hm => ?_, fun m hm => ?_, both (by decide) (by decide) hA.dep⟩
  · rw [List.length_append, List.length_singleton, List.flatMap_append]
    simp only [List.flatMap_cons, List.flatMap_nil, List.append_nil]
    exact hr.kept gs (.inr (row_blk (e := 31) (t := 49) (by decide) hr blk2))
  · rcases List.mem_append.1 hm with hm | hm
    · exact both (by decide) (by decide) (hA.cls m hm)
    · obtain rfl := List.mem_singleton.1 hm
      exact both (by decide) (by decide) (owns_base hc hb)
  · rcases List.mem_append.1 hm with hm | hm
    · exact both (by decide) (by decide) (hA.ats m hm)
    · obtain rfl := List.mem_singleton.1 hm
      exact both (by decide) (by decide) (owns_base ha hb)
theorem RTr.pushD {b : Nat} {W X w7 : World} {tb : Nat} {nv dv v' : Value} {ns : List Nv} {ds : List Int} {d : Int} (h : RTr b W tb nv dv ns ds) (hX : Below W.heap.size W X)
    (hr : w7.ownsRow b 3 1 v' (ds.length + 1) (ds.map (Value.int .i64) ++ [.int .i64 d])) (hg : X.grownBy w7 dv.ownBlock) :
    RTr b (w7.setCell ⟨tb, 1, none⟩ v') tb nv v' ns (ds ++ [d]) := by
  have hA := h.next hX
  have gs := grown_set w7 tb 1 v'
  have blk2 := hA.blk.kept hg (fun e => row_blk (e := 3) (t := 49) (by decide) hA.dep hA.blk e.symm)
  have both : ∀ {e : TypeId} {s : Nat} {v : Value} {n : Nat} {xs : List Value}, e ≠ 3 → e ≠ 49 → X.ownsRow b e s v n xs → (w7.setCell ⟨tb, 1, none⟩ v').ownsRow b e s v n xs := fun he he' hx => by
    have h1 := hx.kept hg (rows_apart he hx hA.dep)
    exact h1.kept gs (.inr (row_blk he' h1 blk2))
  refine ⟨blk_put blk2 1 v', h.low, both (by decide) (by decide) hA.row, fun m hm => both (by decide) (by decide) (hA.cls m hm), fun m hm => both (by decide) (by decide) (hA.ats m hm), ?_⟩
  unfold IntRow
  rw [List.length_append, List.length_singleton, List.map_append]
  exact hr.kept gs (.inr (row_blk (e := 3) (t := 49) (by decide) hr blk2))
def depI (es : List El) : List Int := es.map fun e => (e.depth : Int)
/-- The tree holds what the elements tell. -/
structure Tells (es : List El) (ns : List Nv) (ds : List Int) : Prop where
  nds : ns.map Nv.nd = es.map El.nd
  dep : ds = depI es
theorem Tells.len {es : List El} {ns : List Nv} {ds : List Int} (h : Tells es ns ds) : ns.length = es.length ∧ ds.length = es.length := by
  refine ⟨?_, by rw [h.dep]; simp [depI]⟩
  have := congrArg List.length h.nds
  simpa using this
theorem Tells.grow {es : List El} {ns : List Nv} {ds : List Int} (h : Tells es ns ds) {p : Nat} {q : El} (hq : es[p]? = some q) (x : El) (n : Nv) (hn : n.nd = x.nd) (c : Nat) : Tells (growV es p q c ++ [x]) (ns ++ [n]) (ds ++ [(x.depth : Int)]) := by
  have hset : ∀ {β : Type} (f : El → β), f { q with ch := q.ch ++ [c] } = f q → (growV es p q c).map f = es.map f := fun f hf => by
    unfold growV
    rw [List.map_set, hf]
    apply List.ext_getElem?
    intro j
    rw [List.getElem?_set]
    by_cases e : p = j
    · subst e
      have hp : p < es.length := (List.getElem?_eq_some_iff.1 hq).1
      rw [if_pos rfl, if_pos (by rw [List.length_map]; exact hp), List.getElem?_map, hq]
      rfl
    · rw [if_neg e]
  refine ⟨?_, ?_⟩
  · rw [List.map_append, List.map_append, hset El.nd rfl, h.nds]
    show _ ++ [n.nd] = _ ++ [x.nd]
    rw [hn]
  · unfold depI
    rw [List.map_append, hset (fun e => (e.depth : Int)) rfl, h.dep]
    rfl
/-- What the document's New leaves. -/
def RMade (b : Nat) (l : List Nd) (e : Ending) (w' : World) : Prop :=
  (∃ tb nv dv ns ds es, newV l = .ok es ∧ e = .returned (.tuple #[.pointer (some ⟨tb, 0, none⟩), .int .i64 0]) ∧ RTr b w' tb nv dv ns ds ∧ Tells es ns ds) ∨ (∃ x, newV l = .error x ∧ e = .returned (.tuple #[.pointer none, .int .i64 x]))

set_option maxRecDepth 100000 in
set_option maxHeartbeats 8000000 in
theorem refNew_any (v : Value) (l : List Nv) (w : World) (hv : NodesAt w.heap.size w v l) (hN : ∀ n ∈ l, NdOk n.nd) :
    Calls Try.prog 7 #[v] w fun e w' => RMade w.heap.size (l.map Nv.nd) e w' ∧ Below w.heap.size w w' := by
  obtain ⟨p, cap, rfl⟩ := hv.row.len
  have hsh := hv.row.short
  obtain ⟨i0, hi, hz0, hz1, hz2⟩ := info_parts infoNode
  obtain ⟨j0, hj, hx0, hx1, hx2⟩ := info_parts infoInt
  have HN : Hid (∀ n ∈ l, NdOk n.nd) := hN
  have hml : (l.map Nv.nd).length = l.length := List.length_map _
  clear hN
  by_cases hbig : 4096 < l.length
  · have hb : (4096 : Int) < (l.length : Int) := by omega
    have hV : newV (l.map Nv.nd) = .error 3 := by unfold newV; rw [if_pos (by omega)]
    clear hml
    go_enter Try.func7, Try.ntmps7
    go_wp2
    go_ret2
    exact ⟨.inr ⟨3, hV, rfl⟩, Below.refl _ _⟩
  · have hb : ¬ (4096 : Int) < (l.length : Int) := by omega
    have hV : newV (l.map Nv.nd) = newF [] (l.map Nv.nd) := by unfold newV; rw [if_neg (by omega)]
    have HV : Hid (_ = _) := hV
    have hTr : RTr w.heap.size (w.alloc (.cells #[.slice none 0 0, .slice none 0 0] 49)) w.heap.size (.slice none 0 0) (.slice none 0 0) [] [] :=
      ⟨Blk.new w 49 [.slice none 0 0, .slice none 0 0], Nat.le_refl _, World.ownsRow_nil _ _ _ _, fun _ h => (by cases h), fun _ h => (by cases h), World.ownsRow_nil _ _ _ _⟩
    have bT : Below w.heap.size w (w.alloc (.cells #[.slice none 0 0, .slice none 0 0] 49)) := (Below.refl _ _).alloc (Nat.le_refl _) _
    clear hV
    go_enter Try.func7, Try.ntmps7
    go_upto_block 0 with fail
    generalize w.alloc (.cells #[.slice none 0 0, .slice none 0 0] 49) = WT at *
    go_wp2
    go_loopw [5] (fun i wr => ∃ (k : Nat) (es : List El) (nv dv : Value) (ns : List Nv) (ds : List Int), i = .int .i64 k ∧ k ≤ l.length ∧ es.length = k ∧ RTr w.heap.size wr w.heap.size nv dv ns ds ∧ Tells es ns ds ∧ TreeOk es ∧ Hid (newF [] (l.map Nv.nd) = newF es ((l.map Nv.nd).drop k)) ∧ Below w.heap.size w wr) (fun i _ => l.length - (intOf i).toNat)
    case atStart => exact ⟨0, [], _, _, [], [], rfl, Nat.zero_le _, rfl, hTr, ⟨rfl, rfl⟩, TreeOk.nil, rfl, bT⟩
    case round =>
      clear hTr bT
      obtain ⟨k, es, nv, dv, ns, ds, rfl, hk, hel, hTr, hTl, hOk, HF, hbw⟩ := hrel
      have hvr := hv.below hbw
      by_cases hlt : k < l.length
      · have hki : (k : Int) < (l.length : Int) := by omega
        have hlk : l[k]? = some l[k] := List.getElem?_eq_getElem hlt
        have hNk := HN.out _ (List.getElem_mem hlt)
        have hck := hvr.cls _ (List.getElem_mem hlt)
        have hak := hvr.ats _ (List.getElem_mem hlt)
        obtain ⟨bk, off, rfl, hbk, hcap, hmx, hcell⟩ := hvr.row.get hlk
        have x0 := hcell 0 _ rfl
        have x1 := hcell 1 _ rfl
        have x2 := hcell 2 _ rfl
        have x3 := hcell 3 _ rfl
        have x4 := hcell 4 _ rfl
        simp only [Nat.add_zero] at x0
        unfold maxLen at hmx
        have HF2 := HF.out
        rw [newF_drop (n := l[k].nd) (by rw [List.getElem?_map, hlk]; rfl)] at HF2
        have HF3 : Hid (_ = _) := HF2
        clear HF HF2 hcell hlk hvr
        generalize l[k] = n at *
        obtain ⟨n, cv, av⟩ := n
        simp only at hNk hck hak x0 x1 x2 x3 x4 HF3
        by_cases hgood : (k = 0 ∧ n.parent = -1) ∨ (0 < k ∧ 0 ≤ n.parent ∧ n.parent < (k : Int))
        · obtain ⟨dV, hdV, hdeep, hflat, hread⟩ : ∃ dV : Nat, dV ≤ 257 ∧ (256 < dV → addV es n = .error 11) ∧ (dV ≤ 256 → ∀ m : Nv, m.nd = lowN n → ∃ es', addV es n = .ok es' ∧ Tells es' (ns ++ [m]) (ds ++ [(dV : Int)])) ∧ ((k = 0 ∧ dV = 0 ∧ n.parent = -1) ∨ ∃ p d : Nat, 0 < k ∧ n.parent = (p : Int) ∧ p < k ∧ ds[p]? = some (d : Int) ∧ dV = d + 1) := by
            rcases hgood with ⟨hk0, hp⟩ | ⟨hk0, hp1, hp2⟩
            · have hes : es = [] := List.length_eq_zero_iff.1 (by omega)
              subst hes
              refine ⟨0, by omega, fun h => absurd h (by omega), fun _ m hm => ⟨[⟨lowN n, 0, 1, []⟩], by unfold addV; simp [hp], ?_⟩, .inl ⟨hk0, rfl, hp⟩⟩
              have h1 := hTl.nds
              have h2 := hTl.dep
              have hns : ns = [] := List.length_eq_zero_iff.1 hTl.len.1
              subst hns
              rw [h2]
              exact ⟨by show [m.nd] = _; rw [hm]; rfl, rfl⟩
            · obtain ⟨p, hpe⟩ : ∃ p : Nat, n.parent = (p : Int) := ⟨n.parent.toNat, by omega⟩
              have hlt' : p < es.length := by omega
              have hq : es[p]? = some es[p] := List.getElem?_eq_getElem hlt'
              have hdp := hOk.deep p _ hq
              have hgd : es.getD n.parent.toNat zeroEl = es[p] := by rw [hpe, Int.toNat_natCast]; simp [List.getD, hq]
              have hadd : addV es n = if es[p].depth = 256 then .error 11 else .ok (growV es p es[p] es.length ++ [⟨lowN n, es[p].depth + 1, es[p].ch.length + 1, []⟩]) := by
                unfold addV
                rw [if_neg (by omega), if_pos ⟨by omega, by omega⟩, hgd, hpe, Int.toNat_natCast]
              refine ⟨es[p].depth + 1, by omega, fun h => by rw [hadd, if_pos (by omega)], fun h m hm => ⟨_, by rw [hadd, if_neg (by omega)], hTl.grow hq _ m hm _⟩, .inr ⟨p, es[p].depth, hk0, hpe, by omega, ?_, rfl⟩⟩
              rw [hTl.dep]
              unfold depI
              rw [List.getElem?_map, hq]
              rfl
          obtain ⟨hnl, hdl⟩ := hTl.len
          rw [hel] at hnl hdl
          have hrowN := hTr.row
          rw [hnl] at hrowN
          have hrowD := hTr.dep
          unfold IntRow at hrowD
          rw [hdl] at hrowD
          obtain ⟨pn, cn, hnv⟩ := owns_form hrowN
          obtain ⟨pd, cd, hdv⟩ := owns_form hrowD
          subst hnv hdv
          have HDat := hTr.dep.at
          obtain ⟨c01, f01⟩ := blk2 hTr.blk
          have HTr : Hid (RTr w.heap.size wr w.heap.size (.slice pn k cn) (.slice pd k cd) ns ds) := hTr
          have HOk : Hid (TreeOk es) := hOk
          have HNk : Hid (NdOk n) := hNk
          have HCk : Hid (StrsAt w.heap.size wr cv n.cls) := hck
          have HAk : Hid (PairsAt w.heap.size wr av n.ats) := hak
          have HDeep : Hid (256 < dV → addV es n = .error 11) := hdeep
          have HFlat : Hid (dV ≤ 256 → ∀ m : Nv, m.nd = lowN n → ∃ es', addV es n = .ok es' ∧ Tells es' (ns ++ [m]) (ds ++ [(dV : Int)])) := hflat
          have HRead : Hid ((k = 0 ∧ dV = 0 ∧ n.parent = -1) ∨ ∃ p d : Nat, 0 < k ∧ n.parent = (p : Int) ∧ p < k ∧ ds[p]? = some (d : Int) ∧ dV = d + 1) := hread
          obtain ⟨pc, cc, rfl⟩ := hck.len
          obtain ⟨pa, ca, rfl⟩ := hak.len
          obtain ⟨parent, tag, id, cls, ats⟩ := n
          simp only at x0 x1 x2 x3 x4 HRead
          clear hdeep hflat hread hTr hOk hNk hck hak hgood hTl hrowN hrowD
          go_upto_region 8 with fail
          go_cut [42] (fun b wx => b = .bool false ∧ wr = wx)
          case first =>
            rcases HRead.out with ⟨hk0, _, hp⟩ | ⟨p, d, hk0, hp, hpk, _, _⟩
            · subst hk0 hp
              clear HDat HFlat HDeep
              go_wp2_with fail
              go_meet
              exact ⟨rfl, rfl⟩
            · subst hp
              have hk0' : ((k : Int) == 0) = false := by simpa using (show ¬ k = 0 by omega)
              have hkp : (0 : Int) < (k : Int) := by omega
              have hpn : decide ((p : Int) < 0) = false := decide_eq_false (by omega)
              have hpk' : decide ((k : Int) ≤ (p : Int)) = false := decide_eq_false (by omega)
              clear HDat HFlat HDeep
              go_wp2_with fail
              go_meet
              exact ⟨by simp; omega, rfl⟩
          case rest =>
          obtain ⟨rfl, rfl⟩ := hcut
          go_upto_if 44 with fail
          go_cut [7] (fun x wx => x = .int .i64 (dV : Int) ∧ wr = wx)
          case first =>
            rcases HRead.out with ⟨hk0, hd0, -⟩ | ⟨p, d, hk0, hp, hpk, hds, hd1⟩
            · subst hk0 hd0
              clear HDat HFlat HDeep
              go_wp2_with fail
              go_meet
              exact ⟨rfl, rfl⟩
            · subst hp hd1
              have hkp : (0 : Int) < (k : Int) := by omega
              obtain ⟨bd, od, rfl, _, hcd, hmd, hcelld⟩ := HDat.get hds
              have z0 := hcelld 0 _ rfl
              simp only [Nat.mul_one, Nat.add_zero] at z0
              rw [hdl] at hcd
              unfold maxLen at hmd
              have hpi : (p : Int) < (k : Int) := by omega
              have hwd : IntKind.i64.wrap ((d : Int) + 1) = (d : Int) + 1 := by rw [IntKind.wrap_i64]; omega
              clear HDat HFlat HDeep hcelld hds
              go_wp2_with fail
              go_meet
              exact ⟨by first | (rw [hwd]; go_num) | (simp; omega) | simp, rfl⟩
          case rest =>
          obtain ⟨rfl, rfl⟩ := hcut
          clear HDat
          go_upto_region 13 with fail
          by_cases hdp : 256 < dV
          · have hdp' : (256 : Int) < (dV : Int) := by omega
            have HF4 : Hid (newV (l.map Nv.nd) = .error 11) := by
              show _ = _
              have := HF3.out
              rw [HDeep.out hdp] at this
              rw [HV.out, this]
            clear HFlat HDeep HF3 hml HRead
            go_wp2
            go_ret2
            exact ⟨.inr ⟨11, HF4.out, rfl⟩, hbw⟩
          · have hdp' : ¬ (256 : Int) < (dV : Int) := by omega
            have hltb : bk < wr.heap.size := by have := hbw.size; omega
            have hszw := hbw.size
            have HS : Hid (∀ X : World, Below wr.heap.size wr X → X.cell? ⟨w.heap.size, 0, none⟩ = some (.slice pn k cn) ∧ X.cell? ⟨bk, off + k * 5, none⟩ = some (.int .i64 parent) ∧ X.cell? ⟨bk, off + k * 5 + 1, none⟩ = some (.string tag) ∧ X.cell? ⟨bk, off + k * 5 + 2, none⟩ = some (.string id) ∧ X.cell? ⟨bk, off + k * 5 + 3, none⟩ = some (.slice pc cls.length cc) ∧ X.cell? ⟨bk, off + k * 5 + 4, none⟩ = some (.slice pa ats.length ca)) := fun X hX => by
              have hc := fun o => hX.cell (p := ⟨bk, o, none⟩) hltb
              exact ⟨(blk2 (HTr.out.blk.next hX)).1.1, (hc _).trans x0, (hc _).trans x1, (hc _).trans x2, (hc _).trans x3, (hc _).trans x4⟩
            have HBW : Hid (Below w.heap.size w wr) := hbw
            have HK : Hid (Calls Try.prog 22 #[ndVal ⟨parent, tag, id, cls, ats⟩ (.slice pc cls.length cc) (.slice pa ats.length ca)] wr.drew _) := lowered_any ⟨parent, tag, id, cls, ats⟩ (.slice pc cls.length cc) (.slice pa ats.length ca) wr.drew ((HCk.out.mono hszw).next (below_drew (Below.refl _ _))) ((HAk.out.mono hszw).next (below_drew (Below.refl _ _))) HNk.out
            unfold ndVal at HK
            obtain ⟨c0, c1⟩ := c01
            obtain ⟨f0, f1⟩ := f01
            clear HDeep HRead hbw
            go_upto_region 15 with fail
            refine Rg.wpD_begin [1, 2, 3, 4, 5, 6, 7, 8, 9, 10] (fun X => X.cell? ⟨w.heap.size, 0, none⟩ = some (.slice pn k cn) ∧ X.cell? ⟨bk, off + k * 5, none⟩ = some (.int .i64 parent) ∧ X.cell? ⟨bk, off + k * 5 + 1, none⟩ = some (.string tag) ∧ X.cell? ⟨bk, off + k * 5 + 2, none⟩ = some (.string id) ∧ X.cell? ⟨bk, off + k * 5 + 3, none⟩ = some (.slice pc cls.length cc) ∧ X.cell? ⟨bk, off + k * 5 + 4, none⟩ = some (.slice pa ats.length ca)) (by kernel_rfl) ?_
            have q0 : Below wr.heap.size wr wr.drew := below_drew (Below.refl _ _)
            have HeldS := HS.out _ q0
            clear x0 x1 x2 x3 x4 c0 c1 f0 f1
            refine Rg.wpD_pure 0 (v := ?_) (by simp only [List.getElem?_toArray, List.getElem?_cons_zero]; rfl) (by kernel_rfl) (by kernel_rfl) (by intro _ _ _ h; exact h) (by rfl) (fun wz => ?_) ?_
            rotate_left
            · first | (go_simp; done) | (go_simp; with_reducible rfl)
            simp only [Act.put, List.setIfInBounds_toArray, List.set_cons_succ, List.set_cons_zero]
            refine Rg.wpD_load 1 (v := ?_) (by simp only [List.getElem?_toArray, List.getElem?_cons_succ, List.getElem?_cons_zero]; rfl) (by kernel_rfl) (by kernel_rfl) (by intro _ _ _ h; exact h) HeldS (by rfl) (fun wz hz => ?_) ?_
            rotate_left
            · first | (go_simp; done) | (go_simp; with_reducible rfl)
            simp only [Act.put, List.setIfInBounds_toArray, List.set_cons_succ, List.set_cons_zero]
            refine Rg.wpD_load 2 (v := ?_) (by simp only [List.getElem?_toArray, List.getElem?_cons_succ, List.getElem?_cons_zero]; rfl) (by kernel_rfl) (by kernel_rfl) (by intro _ _ _ h; exact h) HeldS (by rfl) (fun wz hz => ?_) ?_
            rotate_left
            · first | (go_simp; done) | (go_simp; with_reducible rfl)
            simp only [Act.put, List.setIfInBounds_toArray, List.set_cons_succ, List.set_cons_zero]
            refine Rg.wpD_load 3 (v := ?_) (by simp only [List.getElem?_toArray, List.getElem?_cons_succ, List.getElem?_cons_zero]; rfl) (by kernel_rfl) (by kernel_rfl) (by intro _ _ _ h; exact h) HeldS (by rfl) (fun wz hz => ?_) ?_
            rotate_left
            · first | (go_simp; done) | (go_simp; with_reducible rfl)
            simp only [Act.put, List.setIfInBounds_toArray, List.set_cons_succ, List.set_cons_zero]
            refine Rg.wpD_load 4 (v := ?_) (by simp only [List.getElem?_toArray, List.getElem?_cons_succ, List.getElem?_cons_zero]; rfl) (by kernel_rfl) (by kernel_rfl) (by intro _ _ _ h; exact h) HeldS (by rfl) (fun wz hz => ?_) ?_
            rotate_left
            · first | (go_simp; done) | (go_simp; with_reducible rfl)
            simp only [Act.put, List.setIfInBounds_toArray, List.set_cons_succ, List.set_cons_zero]
            refine Rg.wpD_load 5 (v := ?_) (by simp only [List.getElem?_toArray, List.getElem?_cons_succ, List.getElem?_cons_zero]; rfl) (by kernel_rfl) (by kernel_rfl) (by intro _ _ _ h; exact h) HeldS (by rfl) (fun wz hz => ?_) ?_
            rotate_left
            · first | (go_simp; done) | (go_simp; with_reducible rfl)
            simp only [Act.put, List.setIfInBounds_toArray, List.set_cons_succ, List.set_cons_zero]
            refine Rg.wpD_load 6 (v := ?_) (by simp only [List.getElem?_toArray, List.getElem?_cons_succ, List.getElem?_cons_zero]; rfl) (by kernel_rfl) (by kernel_rfl) (by intro _ _ _ h; exact h) HeldS (by rfl) (fun wz hz => ?_) ?_
            rotate_left
            · first | (go_simp; done) | (go_simp; with_reducible rfl)
            simp only [Act.put, List.setIfInBounds_toArray, List.set_cons_succ, List.set_cons_zero]
            refine Rg.wpD_load 7 (v := ?_) (by simp only [List.getElem?_toArray, List.getElem?_cons_succ, List.getElem?_cons_zero]; rfl) (by kernel_rfl) (by kernel_rfl) (by intro _ _ _ h; exact h) HeldS (by rfl) (fun wz hz => ?_) ?_
            rotate_left
            · first | (go_simp; done) | (go_simp; with_reducible rfl)
            simp only [Act.put, List.setIfInBounds_toArray, List.set_cons_succ, List.set_cons_zero]
            refine Rg.wpD_load 8 (v := ?_) (by simp only [List.getElem?_toArray, List.getElem?_cons_succ, List.getElem?_cons_zero]; rfl) (by kernel_rfl) (by kernel_rfl) (by intro _ _ _ h; exact h) HeldS (by rfl) (fun wz hz => ?_) ?_
            rotate_left
            · first | (go_simp; done) | (go_simp; with_reducible rfl)
            simp only [Act.put, List.setIfInBounds_toArray, List.set_cons_succ, List.set_cons_zero]
            refine Rg.wpD_do 9 (by kernel_rfl) (by simp only [List.getElem?_toArray, List.getElem?_cons_succ, List.getElem?_cons_zero]; rfl) (fun K hK => ?_)
            go_simp
            go_at_call 22
            refine Calls.mono HK.out ?_
            rintro e wN ⟨cv', av', rfl, hcN, haN, bN⟩
            have qN : Below wr.heap.size wr wN := below_next q0 bN
            refine hK _ _ (fun _ => HS.out _ qN) ?_
            clear HeldS hK K bN
            simp only [lowN]
            refine Rg.wpD_do 10 (by kernel_rfl) (by simp only [List.getElem?_toArray, List.getElem?_cons_succ, List.getElem?_cons_zero]; rfl) (fun K hK => ?_)
            go_simp
            have qL : Below wr.heap.size wr (wN.alloc (.cells #[.int .i64 parent, .string (lowS tag), .string id, cv', av'] 31)) := qN.alloc qN.size _
            refine hK _ _ (fun _ => HS.out _ qL) ?_
            clear hK K
            have hcp := cells_plain wN [.int .i64 parent, .string (lowS tag), .string id, cv', av'] 31
            have HTL := HTr.out.next qL
            have hrL := HTL.row
            rw [hnl] at hrL
            have H1 : ∀ u ∈ ([.int .i64 parent, .string (lowS tag), .string id, cv', av'] : List Value), u.oneCell' = true := fun u hu => by
              simp only [List.mem_cons, List.not_mem_nil, or_false] at hu
              rcases hu with rfl | rfl | rfl | rfl | rfl
              · rfl
              · rfl
              · rfl
              · exact slice_one hcN
              · exact slice_one haN
            have hsL : w.heap.size ≤ (wN.alloc (.cells #[.int .i64 parent, .string (lowS tag), .string id, cv', av'] 31)).heap.size := Nat.le_trans hszw qL.size
            refine Rg.wpD_do 11 (by kernel_rfl) (by simp only [List.getElem?_toArray, List.getElem?_cons_succ, List.getElem?_cons_zero]; rfl) (fun K hK => ?_)
            refine step_append_lies (w := wN.alloc _) rfl _ _ 22 rfl w.heap.size 31 i0 (.agg #[.int .i64 0, .string ⟨#[]⟩, .string ⟨#[]⟩, .slice none 0 0, .slice none 0 0]) 5 88 Try.underlying22 hi hz0 hz1 hz2 rfl (by decide) (.slice pn k cn) _ _ rfl hrL ⟨wN.heap.size, 0, none⟩ 1 1 [.int .i64 parent, .string (lowS tag), .string id, cv', av'] rfl rfl hcp H1 (by decide) (by unfold maxLen; omega) (by omega) hsL _ rfl ?_
            intro g7 c7 w7 hown7 hgrow7 hat7 hlt7
            refine hK _ _ (fun h => absurd h (by decide)) ?_
            clear hK K hcp H1
            have hcL := hcN.next ((Below.refl _ wN).alloc (Nat.le_refl _) (.cells #[.int .i64 parent, .string (lowS tag), .string id, cv', av'] 31))
            have haL := haN.next ((Below.refl _ wN).alloc (Nat.le_refl _) (.cells #[.int .i64 parent, .string (lowS tag), .string id, cv', av'] 31))
            have hT7 := HTr.out.pushN (w7 := w7) (n := ⟨lowN ⟨parent, tag, id, cls, ats⟩, cv', av'⟩) qL hcL haL (by rw [hnl]; exact hown7) hgrow7
            have b7 := (below_next HBW.out qL).grown hgrow7 hsL (fun r e => (owns_lt hrL e).1)
            have b8 := below_grown b7 (grown_set w7 w.heap.size 0 (.slice (some ⟨g7, 0, none⟩) (k + 1) c7)) b7.size (Nat.le_refl _)
            have k7 := HTL.blk.kept hgrow7 (fun e => row_blk (e := 31) (t := 49) (by decide) HTL.row HTL.blk e.symm)
            obtain ⟨⟨d7, _⟩, e7, _⟩ := blk2 k7
            clear HTL hrL hcL haL hcN haN b7 k7 hown7 hgrow7 hat7 hlt7
            refine Rg.wpD_pure 12 (v := ?_) (by simp only [List.getElem?_toArray, List.getElem?_cons_succ, List.getElem?_cons_zero]; rfl) (by kernel_rfl) (by kernel_rfl) (by intro _ _ _ h; exact h) (by rfl) (fun wz => ?_) ?_
            rotate_left
            · first | (go_simp; done) | (go_simp; with_reducible rfl)
            simp only [Act.put, List.setIfInBounds_toArray, List.set_cons_succ, List.set_cons_zero]
            refine Rg.wpD_pure 13 (v := ?_) (by simp only [List.getElem?_toArray, List.getElem?_cons_succ, List.getElem?_cons_zero]; rfl) (by kernel_rfl) (by kernel_rfl) (by intro _ _ _ h; exact h) (by rfl) (fun wz => ?_) ?_
            rotate_left
            · first | (go_simp; done) | (go_simp; with_reducible rfl)
            simp only [Act.put, List.setIfInBounds_toArray, List.set_cons_succ, List.set_cons_zero]
            refine Rg.wpD_do 14 (by kernel_rfl) (by simp only [List.getElem?_toArray, List.getElem?_cons_succ, List.getElem?_cons_zero]; rfl) (fun K hK => ?_)
            go_simp
            refine hK _ _ (fun h => absurd h (by decide)) ?_
            clear hK K
            refine Rg.wpD_done (by kernel_rfl) ?_
            generalize w7.setCell ⟨w.heap.size, 0, none⟩ (.slice (some ⟨g7, 0, none⟩) (k + 1) c7) = W8 at *
            obtain ⟨⟨c0, c1⟩, f0, f1⟩ := blk2 hT7.blk
            have hD8 := hT7.dep
            unfold IntRow at hD8
            rw [hdl] at hD8
            have H2 : ∀ u ∈ ([.int .i64 (dV : Int)] : List Value), u.oneCell' = true := fun u hu => by simp at hu; subst hu; rfl
            have HD8 : Hid (∀ o : Obj, (W8.alloc o).ownsRow w.heap.size 3 1 (.slice pd k cd) k (ds.map (Value.int .i64))) := fun o => hD8.alloc o
            have hs8 := b8.size
            have hs9 : w.heap.size ≤ (W8.alloc (.cells #[.int .i64 (dV : Int)] 3)).heap.size := by rw [World.size_alloc]; omega
            have bA8 : Below W8.heap.size W8 (W8.alloc (.cells #[.int .i64 (dV : Int)] 3)) := (Below.refl _ _).alloc (Nat.le_refl _) _
            have hT9 := hT7.next bA8
            have HT9 : Hid (∀ w9, (W8.alloc (.cells #[.int .i64 (dV : Int)] 3)).grownBy w9 (Value.slice pd k cd).ownBlock → Blk w9 w.heap.size 49 [.slice (some ⟨g7, 0, none⟩) (k + 1) c7, .slice pd k cd]) := fun w9 hg => hT9.blk.kept hg (fun e => row_blk (e := 3) (t := 49) (by decide) hT9.dep hT9.blk e.symm)
            clear HS HK qN qL q0 hD8 d7 e7
            go_upto_region 6 with (at_builtin; refine wpList_append_own _ rfl _ _ 37 rfl w.heap.size 3 j0 (.int .i64 0) 1 8 Try.underlying37 hj hx0 hx1 hx2 rfl (by decide) (.slice pd k cd) _ _ rfl (HD8.out _) ⟨W8.heap.size, 0, none⟩ 1 1 [.int .i64 (dV : Int)] rfl rfl (cells_plain _ [_] _) H2 (by unfold maxLen; omega) (by omega) hs9 ?_; intro v9 w9 hown9 hgrow9 hnil9; obtain ⟨g9, c9, rfl⟩ := shape_of hown9; obtain ⟨⟨_, y9⟩, _, f9⟩ := blk2 (HT9.out w9 hgrow9))
            have hT10 := hT7.pushD (w7 := w9) (d := (dV : Int)) bA8 (by rw [hdl]; exact hown9) hgrow9
            have b9 := (below_next b8 bA8).grown hgrow9 hs9 (fun r e => (owns_lt (HD8.out (.cells #[.int .i64 (dV : Int)] 3)) e).1)
            have b10 := below_grown b9 (grown_set w9 w.heap.size 1 (.slice (some ⟨g9, 0, none⟩) (k + 1) c9)) b9.size (Nat.le_refl _)
            obtain ⟨es', hadd, hTl'⟩ := HFlat.out (by omega) ⟨lowN ⟨parent, tag, id, cls, ats⟩, cv', av'⟩ rfl
            have hl' := addV_length hadd
            have hO' := addV_ok HOk.out hadd
            have HF5 := HF3.out
            rw [hadd] at HF5
            have HF6 : Hid (_ = _) := HF5
            clear HF5 HF3 hadd HFlat HOk hT7 hT9 HT9 HD8 hown9 hgrow9 hnil9 b9 b8 bA8 y9 f9 c0 c1 f0 f1
            go_wp2
            exact ⟨⟨k + 1, es', _, _, _, _, by go_num, by omega, by omega, hT10, hTl', hO', HF6, b10⟩, by simp [intOf]; omega⟩
        · have hadd : addV es n = .error 10 := by
            unfold addV
            by_cases hk0 : k = 0
            · rw [if_pos (by omega), if_neg (fun h => hgood (.inl ⟨hk0, h⟩))]
            · rw [if_neg (by omega), if_neg (fun h => hgood (.inr ⟨by omega, h.1, by omega⟩))]
          have HF4 : Hid (newV (l.map Nv.nd) = .error 10) := by
            show _ = _
            have := HF3.out
            rw [hadd] at this
            rw [HV.out, this]
          clear hadd HF3 hOk hTl hTr hml
          generalize n.parent = pp at *
          by_cases hk0 : k = 0
          · subst hk0
            have hp : (pp != -1) = true := by simpa using (fun h => hgood (.inl ⟨rfl, h⟩))
            simp only [Nat.zero_mul, Nat.add_zero] at x0
            clear hgood
            go_wp2
            go_ret2
            exact ⟨.inr ⟨10, HF4.out, rfl⟩, hbw⟩
          · have hk0' : ((k : Int) == 0) = false := by simpa using hk0
            have hkp : (0 : Int) < (k : Int) := by omega
            by_cases hneg : pp < 0
            · clear hgood
              go_wp2
              go_ret2
              exact ⟨.inr ⟨10, HF4.out, rfl⟩, hbw⟩
            · have hge : (k : Int) ≤ pp := by
                have := fun h => hgood (.inr h)
                omega
              have hn1 : decide (pp < 0) = false := decide_eq_false hneg
              clear hgood
              go_wp2
              go_ret2
              exact ⟨.inr ⟨10, HF4.out, rfl⟩, hbw⟩
      · have hki : ¬ (k : Int) < (l.length : Int) := by omega
        obtain rfl : k = l.length := by omega
        have HF5 : Hid (newV (l.map Nv.nd) = .ok es) := by
          show _ = _
          rw [HV.out, HF.out, List.drop_eq_nil_iff.2 (by rw [hml]; exact Nat.le_refl _)]
          rfl
        clear HF hOk hel hml
        go_wp2
        go_ret2
        exact ⟨.inl ⟨w.heap.size, nv, dv, ns, ds, es, HF5.out, rfl, hTr, hTl⟩, hbw⟩

end Go.Proofs.Ytopmahiapejkgaa.Dm
