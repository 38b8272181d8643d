/- For all nodes and every list of selectors (inputs without rings): the law tapestrierlaw14.RevalNames returns true; no other condition. -/
import Derived.Test.YtcdimmabnklcnaaRnAlive
import Derived.Test.YtcdimmabnklcnaaSelArgs
import Derived.Test.YtcdimmabnklcnaaDear
import Derived.Test.YtcdimmabnklcnaaDmArgs
import Derived.Test.YtcdimmabnklcnaaRows
namespace Go.Proofs.Ytcdimmabnklcnaa
open Go.Proofs.Ytcdimmabnklcnaa.Tre
open Go Go.ChangeShapes Go.WideShapes Go.ChangeAt Go.RowKit Sl Wg
open Dm (Nv El Nd NodesAt NdOk SmallN StrsAt PairsAt nodeV parentV)

set_option maxRecDepth 100000 in
set_option maxHeartbeats 8000000 in
theorem revalNames_walk (w : World) (v0 : Value) (ns : List Nv) (hn : NodesAt w.heap.size w v0 ns) (hN : ∀ n ∈ ns, NdOk n.nd) (_h88 : ns.length * 88 ≤ 140737488351232) (v1 : Value) (ss : List Sel) (hs : SelsR 11 w.heap.size w v1 ss) (_ho : ∀ s ∈ ss, SlOk s) :
    Calls Try.prog 3 #[v0, v1] w fun e w' => e = .returned (.bool true) ∧ Below w.heap.size w w' := by
  obtain ⟨p, cap, rfl⟩ := hn.row.len
  have hsh := Wg.RowT.short hs
  obtain ⟨q, c, rfl⟩ := Wg.RowT.len hs
  unfold maxLen at hsh
  have hal := Rf.alive14_any w
  have HNS : Hid (NodesAt w.heap.size w (.slice p ns.length cap) ns) := hn
  have HN : Hid (∀ n ∈ ns, NdOk n.nd) := hN
  have HV : Hid (SelsR 11 w.heap.size w (.slice q ss.length c) ss) := hs
  clear hn hN hs _ho
  go_enter Try.func3, Try.ntmps3
  go_wp2_with fail
  refine hal.mono ?_
  clear hal
  rintro e w1 ⟨rfl, b1⟩
  have hde := Wg.Dear_any _ ss w1 (HV.out.next b1)
  go_wp2_with fail
  refine hde.mono ?_
  clear hde
  rintro e w2 ⟨t, rfl, b2⟩
  have B2 := below_next b1 b2
  clear b1 b2
  have hnew := Dm.refNew_any _ ns w2 (HNS.out.next B2) HN.out
  cases t with
  | true =>
    go_wp2_with fail
    refine hnew.mono ?_
    clear hnew
    rintro e w3 ⟨hm, b3⟩
    have B3 := below_next B2 b3
    unfold Dm.RMade at hm
    rcases hm with ⟨rb, nv, dv, nx, ds, es, hV, rfl, hR, hE⟩ | ⟨x, hV, rfl⟩
    · clear hV hR hE
      go_wp2
      go_ret
      exact ⟨rfl, B3⟩
    · clear hV
      go_wp2
      go_ret
      exact ⟨rfl, B3⟩
  | false =>
    have hbig := Dm.big_small _ ns w2 (HNS.out.next B2)
    go_wp2_with fail
    refine hbig.mono ?_
    clear hbig
    rintro e w3 ⟨big, rfl, hw, hbig⟩
    obtain rfl := hw.symm
    have HB : Hid (big = false → (ns.length ≤ 40 ∧ ∀ n ∈ ns, SmallN n.nd) ∨ 4096 < ns.length) := hbig
    clear hbig hw
    go_wp2_with fail
    refine hnew.mono ?_
    clear hnew
    rintro e w3 ⟨hm, b3⟩
    have B3 := below_next B2 b3
    unfold Dm.RMade at hm
    rcases hm with ⟨rb, nv, dv, nx, ds, es, hV, rfl, hR, hE⟩ | ⟨x, hV, rfl⟩
    rotate_left
    · have hx0 : (x != 0) = true := by
        rcases Dm.newV_err hV with rfl | rfl | rfl <;> rfl
      clear hV
      cases big with
      | true =>
        go_wp2
        go_ret
        exact ⟨rfl, B3⟩
      | false =>
        go_wp2
        go_ret
        exact ⟨rfl, B3⟩
    cases big with
    | true =>
      clear hV hR hE
      go_wp2
      go_ret
      exact ⟨rfl, B3⟩
    | false =>
      obtain ⟨h40, hsm⟩ : ns.length ≤ 40 ∧ ∀ n ∈ ns, SmallN n.nd := by
        rcases HB.out rfl with h | h
        · exact h
        · have := (Dm.newV_ok hV).2.2
          rw [List.length_map] at this
          omega
      obtain ⟨hTA, _, hel⟩ := Rf.TE.of_new hR hE hV hsm
      obtain ⟨T, hTT⟩ : ∃ T : Rf.TE, T = Rf.TE.mk w2.heap.size rb nv dv nx ds es := ⟨_, rfl⟩
      rw [← hTT] at hTA
      have hTe : T.es = es := by rw [hTT]
      have hTp : T.p = .pointer (some ⟨rb, 0, none⟩) := by rw [hTT]
      have HEL : Hid (es.length = ns.length) := hel
      have HO : Hid (Dm.TreeOk es) := by
        have h := hTA.ok
        rw [hTe] at h
        exact h
      have hnl := hE.len.1
      -- each element's node, told by the tree's own rows
      have HND : Hid (∀ k : Nat, k < ns.length → ∃ (nd : Nd) (pc : Option Addr) (cc : Nat) (av : Value), (∃ pa ma ca, av = .slice pa ma ca) ∧ StrsAt w3.heap.size w3 (.slice pc nd.cls.length cc) nd.cls ∧ nodeV es (k : Int) = nd ∧ parentV es (k : Int) = nd.parent ∧
          ∀ X, Below w3.heap.size w3 X → Calls Try.prog 9 #[.pointer (some ⟨rb, 0, none⟩), .int .i64 (k : Int)] X fun x w' => x = .returned (.agg #[.int .i64 nd.parent, .string nd.tag, .string nd.id, .slice pc nd.cls.length cc, av]) ∧ Below X.heap.size X w') := fun k hk => by
        have hk2 : k < nx.length := by rw [hnl, hel]; exact hk
        obtain ⟨n, hn⟩ : ∃ n, nx[k]? = some n := ⟨_, List.getElem?_eq_getElem hk2⟩
        obtain ⟨z, hz, hzn, _⟩ := hE.at hn
        have hcl := (hR.cls n (List.mem_of_getElem? hn)).at
        have hat := (hR.ats n (List.mem_of_getElem? hn)).at
        obtain ⟨pc, cc, hcv⟩ := hcl.len
        obtain ⟨pa, ca, hav⟩ := hat.len
        refine ⟨n.nd, pc, cc, n.av, ⟨pa, _, ca, hav⟩, by rw [← hcv]; exact hcl, by unfold nodeV; rw [Dm.elAt_yes hz, ← hzn]; rfl, by unfold parentV; rw [Dm.elAt_yes hz, ← hzn]; rfl, fun X hX => ?_⟩
        have h := Dm.refNode_at w2.heap.size rb nv dv nx ds k n X (hR.next hX) hn
        unfold Dm.ndVal at h
        rw [hcv] at h
        exact h
      have HSEL : Hid (∀ e : Nat, ∀ X, Below w3.heap.size w3 X → ∀ (s : Sel) (v : Value), Rf.needsV s = false → PartsR 10 X.heap.size X v s → Calls Try.prog 12 #[.pointer (some ⟨rb, 0, none⟩), .int .i64 (e : Int), .agg #[v]] X fun r' w' => r' = .returned (.bool (Rf.selectorV es e (cutS 8 (cutS 9 s)))) ∧ Below X.heap.size X w') := fun e X hX s v hns hp => by
        have h := Rf.selector_any T (cutS 8 (cutS 9 s)) v e X (hTA.next hX) (PartsR.cut (PartsR.cut hp)) (Rf.okS_plain (by rw [Rf.needs_cut, Rf.needs_cut]; exact hns))
        rw [hTe, hTp] at h
        exact h
      clear hV hR hE hsm hTA hel hTT hTe hTp HB hnl T
      go_wp2
      go_loopw [9] (fun y wr => ∃ a : Nat, y = .int .i64 a ∧ 1 ≤ a ∧ Below w3.heap.size w3 wr) (fun y _ => ns.length + 1 - (intOf y).toNat)
      case atStart => exact ⟨1, rfl, Nat.le_refl _, Below.refl _ _⟩
      case round =>
        obtain ⟨a, rfl, ha1, bw⟩ := hrel
        by_cases hla : a < ns.length
        · have hai : (a : Int) < (ns.length : Int) := by omega
          have HBA : Hid (Below w3.heap.size w3 wr) := bw
          clear bw
          go_wp2
          go_loopw [10] (fun y wx => ∃ b : Nat, y = .int .i64 b ∧ 1 ≤ b ∧ Below wr.heap.size wr wx) (fun y _ => a + 1 - (intOf y).toNat)
          case atStart => exact ⟨1, rfl, Nat.le_refl _, Below.refl _ _⟩
          case round =>
            rename World => wx
            obtain ⟨b, rfl, hb1, bx⟩ := hrel
            have HBX : Hid (Below wr.heap.size wr wx) := bx
            have H3X : Hid (Below w3.heap.size w3 wx) := below_next HBA.out bx
            clear bx
            by_cases hlb : b < a
            · have hbi : (b : Int) < (a : Int) := by omega
              obtain ⟨nd1, pc1, cc1, av1, ⟨pa1, ma1, ca1, rfl⟩, hs1, hv1, hp1, hN1⟩ := HND.out a hla
              obtain ⟨nd2, pc2, cc2, av2, ⟨pa2, ma2, ca2, rfl⟩, hs2, hv2, hp2, hN2⟩ := HND.out b (by omega)
              have HS1 : Hid (StrsAt w3.heap.size w3 (.slice pc1 nd1.cls.length cc1) nd1.cls) := hs1
              have HS2 : Hid (StrsAt w3.heap.size w3 (.slice pc2 nd2.cls.length cc2) nd2.cls) := hs2
              have HE1 : Hid (nodeV es (a : Int) = nd1 ∧ parentV es (a : Int) = nd1.parent) := ⟨hv1, hp1⟩
              have HE2 : Hid (nodeV es (b : Int) = nd2 ∧ parentV es (b : Int) = nd2.parent) := ⟨hv2, hp2⟩
              have hcall1 := hN1 wx H3X.out
              have HN2 : Hid (∀ X, Below w3.heap.size w3 X → Calls Try.prog 9 #[.pointer (some ⟨rb, 0, none⟩), .int .i64 (b : Int)] X fun x w' => x = .returned (.agg #[.int .i64 nd2.parent, .string nd2.tag, .string nd2.id, .slice pc2 nd2.cls.length cc2, .slice pa2 ma2 ca2]) ∧ Below X.heap.size X w') := hN2
              clear hs1 hs2 hv1 hv2 hp1 hp2 hN1 hN2
              go_wp2_with fail
              refine hcall1.mono ?_
              clear hcall1
              rintro e w5 ⟨rfl, b5⟩
              obtain ⟨X1, hX1⟩ : ∃ X1, w5.alloc (.cells #[.int .i64 nd1.parent, .string nd1.tag, .string nd1.id, .slice pc1 nd1.cls.length cc1, .slice pa1 ma1 ca1] 33) = X1 := ⟨_, rfl⟩
              have c1 : Below w5.heap.size w5 X1 := by rw [← hX1]; exact (Below.refl _ _).alloc (Nat.le_refl _) _
              have k1 : Blk X1 w5.heap.size 33 [.int .i64 nd1.parent, .string nd1.tag, .string nd1.id, .slice pc1 nd1.cls.length cc1, .slice pa1 ma1 ca1] := by rw [← hX1]; exact Blk.new w5 33 _
              have bX1 := below_next b5 c1
              have hcall2 := HN2.out X1 (below_next H3X.out bX1)
              have HX1 : Hid (w5.alloc (.cells #[.int .i64 nd1.parent, .string nd1.tag, .string nd1.id, .slice pc1 nd1.cls.length cc1, .slice pa1 ma1 ca1] 33) = X1) := hX1
              clear hX1
              go_wp2_with fail
              rw [show _ = X1 from HX1.out]
              refine hcall2.mono ?_
              clear hcall2 HX1
              rintro e w6 ⟨rfl, b6⟩
              obtain ⟨X2, hX2⟩ : ∃ X2, w6.alloc (.cells #[.int .i64 nd2.parent, .string nd2.tag, .string nd2.id, .slice pc2 nd2.cls.length cc2, .slice pa2 ma2 ca2] 33) = X2 := ⟨_, rfl⟩
              have c2 : Below w6.heap.size w6 X2 := by rw [← hX2]; exact (Below.refl _ _).alloc (Nat.le_refl _) _
              have k2 : Blk X2 w6.heap.size 33 [.int .i64 nd2.parent, .string nd2.tag, .string nd2.id, .slice pc2 nd2.cls.length cc2, .slice pa2 ma2 ca2] := by rw [← hX2]; exact Blk.new w6 33 _
              have hlt12 : w5.heap.size < w6.heap.size := Nat.lt_of_lt_of_le k1.lt b6.size
              have k12 := k1.below (below_next b6 c2) k1.lt
              have bX2 := below_next bX1 (below_next b6 c2)
              have s5 : wx.heap.size ≤ w5.heap.size := b5.size
              -- the two stores
              have g1 := Dm.grown_set X2 w5.heap.size 4 (.slice none 0 0)
              have k1b := Dm.blk_put k12 4 (.slice none 0 0)
              have k2b : Blk (X2.setCell ⟨w5.heap.size, 4, none⟩ (.slice none 0 0)) w6.heap.size 33 [.int .i64 nd2.parent, .string nd2.tag, .string nd2.id, .slice pc2 nd2.cls.length cc2, .slice pa2 ma2 ca2] := by
                show (X2.setCell ⟨w5.heap.size, 4, none⟩ (.slice none 0 0)).heap[w6.heap.size]? = _
                rw [g1.block w6.heap.size k2.lt (fun e => by have := Option.some.inj e; omega)]
                exact k2
              have bX3 : Below wx.heap.size wx (X2.setCell ⟨w5.heap.size, 4, none⟩ (.slice none 0 0)) := bX2.grown g1 bX2.size (fun r e => by cases e; exact s5)
              obtain ⟨⟨x0, x1, x2, x3, x4⟩, f0, f1, f2, f3, f4⟩ := blk5 k12
              have HX2 : Hid (w6.alloc (.cells #[.int .i64 nd2.parent, .string nd2.tag, .string nd2.id, .slice pc2 nd2.cls.length cc2, .slice pa2 ma2 ca2] 33) = X2) := hX2
              clear hX2 c1 c2 k1 b5 bX1 b6 k2 k12 bX2 g1
              go_upto_region 14 with fail
              rw [show _ = X2 from HX2.out]
              clear HX2
              go_upto_region 15 with fail
              clear x0 x1 x2 x3 x4 f0 f1 f2 f3 f4
              generalize X2.setCell ⟨w5.heap.size, 4, none⟩ (.slice none 0 0) = X3 at *
              have g2 := Dm.grown_set X3 w6.heap.size 4 (.slice none 0 0)
              have k2c := Dm.blk_put k2b 4 (.slice none 0 0)
              have k1c : Blk (X3.setCell ⟨w6.heap.size, 4, none⟩ (.slice none 0 0)) w5.heap.size 33 [.int .i64 nd1.parent, .string nd1.tag, .string nd1.id, .slice pc1 nd1.cls.length cc1, .slice none 0 0] := by
                show (X3.setCell ⟨w6.heap.size, 4, none⟩ (.slice none 0 0)).heap[w5.heap.size]? = _
                rw [g2.block w5.heap.size k1b.lt (fun e => by have := Option.some.inj e; omega)]
                exact k1b
              have bX4 : Below wx.heap.size wx (X3.setCell ⟨w6.heap.size, 4, none⟩ (.slice none 0 0)) := bX3.grown g2 bX3.size (fun r e => by cases e; omega)
              obtain ⟨⟨y0, y1, y2, y3, y4⟩, f0, f1, f2, f3, f4⟩ := blk5 k2b
              clear g2 bX3 k1b k2b
              go_upto_region 16 with fail
              clear y0 y1 y2 y3 y4 f0 f1 f2 f3 f4
              generalize X3.setCell ⟨w6.heap.size, 4, none⟩ (.slice none 0 0) = X4 at *
              have k1d : Blk X4 w5.heap.size 33 [.int .i64 nd1.parent, .string nd1.tag, .string nd1.id, .slice pc1 nd1.cls.length cc1, .slice none 0 0] := k1c
              have k2d : Blk X4 w6.heap.size 33 [.int .i64 nd2.parent, .string nd2.tag, .string nd2.id, .slice pc2 nd2.cls.length cc2, .slice none 0 0] := k2c
              obtain ⟨⟨x0, x1, x2, x3, x4⟩, _⟩ := blk5 k1d
              obtain ⟨⟨y0, y1, y2, y3, y4⟩, _⟩ := blk5 k2d
              have b34 := below_next H3X.out bX4
              have hsn := Dm.sameNode_tells nd1 nd2 _ _ X4 (HS1.out.next b34) (HS2.out.next b34)
              have HX4 : Hid (Below wx.heap.size wx X4) := bX4
              clear k1c k2c k1d k2d bX4 b34 hlt12 s5
              go_wp2_with fail
              refine hsn.mono ?_
              clear hsn x0 x1 x2 x3 x4 y0 y1 y2 y3 y4
              rintro e w7 ⟨t, rfl, HT, b7⟩
              have HB7 : Hid (Below wx.heap.size wx w7) := below_next HX4.out b7
              clear b7
              cases t with
              | false =>
                have b9 := below_next HBX.out HB7.out
                go_wp2
                go_roundw
                case rel => exact ⟨b + 1, by go_num, by omega, b9⟩
                case measure => simp [intOf]; omega
              | true =>
                have HTW : Hid (∀ s : Sel, Rf.needsV s = false → Rf.selectorV es (a : Int) (cutS 8 (cutS 9 s)) = Rf.selectorV es (b : Int) (cutS 8 (cutS 9 s))) := fun s hsn => by
                  obtain ⟨e1, e2, e3, e4⟩ := HT.out rfl
                  have h1 := HE1.out
                  have h2 := HE2.out
                  have hel := HEL.out
                  exact Rf.twin_sel HO.out (by omega) (by omega) (by rw [h1.2, h2.2, e1]) (by rw [h1.1, h2.1, e2]) (by rw [h1.1, h2.1, e3]) (by rw [h1.1, h2.1, e4]) (by rw [Rf.needs_cut, Rf.needs_cut]; exact hsn)
                clear HT
                go_wp2
                go_loopw [13] (fun y wy => ∃ i : Nat, y = .int .i64 i ∧ i ≤ ss.length ∧ Below w7.heap.size w7 wy) (fun y _ => ss.length - (intOf y).toNat)
                case atStart => exact ⟨0, rfl, Nat.zero_le _, Below.refl _ _⟩
                case round =>
                  rename World => wy
                  obtain ⟨i, rfl, hi, bY⟩ := hrel
                  have HBY : Hid (Below w7.heap.size w7 wy) := bY
                  clear bY
                  by_cases hil : i < ss.length
                  · have hii : (i : Int) < (ss.length : Int) := by omega
                    obtain ⟨s, hs⟩ : ∃ s, ss[i]? = some s := ⟨_, List.getElem?_eq_getElem hil⟩
                    have H3Y : Hid (Below w3.heap.size w3 wy) := below_next H3X.out (below_next HB7.out HBY.out)
                    obtain ⟨bk, off, xv, rfl, hbk, g1, g2, hxs, y0⟩ := SelsR.get (HV.out.next (below_next B3 H3Y.out)) hs
                    obtain ⟨xp, xc, rfl⟩ := RowT.len hxs
                    have HC : Hid (∀ X, Below wy.heap.size wy X → X.cell? ⟨bk, off + i, none⟩ = some (.slice xp s.length xc)) := fun X hX => (hX.cell (p := ⟨bk, off + i, none⟩) hbk).trans y0
                    have HPS : Hid (∀ X, Below wy.heap.size wy X → PartsR 10 X.heap.size X (.slice xp s.length xc) s) := fun X hX => PartsR.next hxs hX
                    obtain ⟨NV, hNV⟩ : ∃ NV, Rf.needsV s = NV := ⟨_, rfl⟩
                    have HNC : Hid (∀ X, Below wy.heap.size wy X → Calls Try.prog 11 #[.agg #[.slice xp s.length xc]] X fun r w' => r = .returned (.bool NV) ∧ Below X.heap.size X w') := fun X hX => by
                      have h := Rf.needs_any 10 s _ X (HPS.out X hX)
                      rwa [hNV] at h
                    have HSC : Hid (NV = false → ∃ V : Bool, (∀ X, Below wy.heap.size wy X → Calls Try.prog 12 #[.pointer (some ⟨rb, 0, none⟩), .int .i64 (a : Int), .agg #[.slice xp s.length xc]] X fun r' w' => r' = .returned (.bool V) ∧ Below X.heap.size X w') ∧ (∀ X, Below wy.heap.size wy X → Calls Try.prog 12 #[.pointer (some ⟨rb, 0, none⟩), .int .i64 (b : Int), .agg #[.slice xp s.length xc]] X fun r' w' => r' = .returned (.bool V) ∧ Below X.heap.size X w')) := fun hf => by
                      have hf2 : Rf.needsV s = false := hNV.trans hf
                      refine ⟨Rf.selectorV es (a : Int) (cutS 8 (cutS 9 s)), fun X hX => HSEL.out a X (below_next H3Y.out hX) s _ hf2 (HPS.out X hX), fun X hX => ?_⟩
                      have h := HSEL.out b X (below_next H3Y.out hX) s _ hf2 (HPS.out X hX)
                      rwa [← HTW.out s hf2] at h
                    unfold maxLen at g2
                    clear hxs hs y0 hNV hbk HPS
                    go_upto_region 20 with fail
                    go_cut [87] (fun y wz => y = .bool false ∧ Below wy.heap.size wy wz)
                    case first =>
                      refine Rg.wpD_begin [0, 1, 2, 3, 4, 7, 8, 9, 10, 11, 12, 13, 14, 15, 16, 17, 18, 19, 20] (fun X => X.cell? ⟨bk, off + i, none⟩ = some (.slice xp s.length xc)) (by kernel_rfl) ?_
                      have q0 : Below wy.heap.size wy wy.drew := below_drew (Below.refl _ _)
                      have HeldS := HC.out _ q0
                      refine Rg.wpD_load 0 (v := ?_) (by simp only [List.getElem?_toArray, List.getElem?_cons_zero]; rfl) (by kernel_rfl) (by kernel_rfl) (by intro _ _ _ h; exact h) HeldS (by rfl) (fun wz hz => ?_) ?_
                      rotate_left
                      · first | (go_simp; done) | (go_simp; with_reducible rfl)
                      simp only [Act.put, List.setIfInBounds_toArray, List.set_cons_succ, List.set_cons_zero]
                      refine Rg.wpD_load 1 (v := ?_) (by simp only [List.getElem?_toArray, List.getElem?_cons_succ, List.getElem?_cons_zero]; rfl) (by kernel_rfl) (by kernel_rfl) (by intro _ _ _ h; exact h) HeldS (by rfl) (fun wz hz => ?_) ?_
                      rotate_left
                      · first | (go_simp; done) | (go_simp; with_reducible rfl)
                      simp only [Act.put, List.setIfInBounds_toArray, List.set_cons_succ, List.set_cons_zero]
                      refine Rg.wpD_load 2 (v := ?_) (by simp only [List.getElem?_toArray, List.getElem?_cons_succ, List.getElem?_cons_zero]; rfl) (by kernel_rfl) (by kernel_rfl) (by intro _ _ _ h; exact h) HeldS (by rfl) (fun wz hz => ?_) ?_
                      rotate_left
                      · first | (go_simp; done) | (go_simp; with_reducible rfl)
                      simp only [Act.put, List.setIfInBounds_toArray, List.set_cons_succ, List.set_cons_zero]
                      refine Rg.wpD_load 3 (v := ?_) (by simp only [List.getElem?_toArray, List.getElem?_cons_succ, List.getElem?_cons_zero]; rfl) (by kernel_rfl) (by kernel_rfl) (by intro _ _ _ h; exact h) HeldS (by rfl) (fun wz hz => ?_) ?_
                      rotate_left
                      · first | (go_simp; done) | (go_simp; with_reducible rfl)
                      simp only [Act.put, List.setIfInBounds_toArray, List.set_cons_succ, List.set_cons_zero]
                      refine Rg.wpD_do 4 (by kernel_rfl) (by simp only [List.getElem?_toArray, List.getElem?_cons_succ, List.getElem?_cons_zero]; rfl) (fun K hK => ?_)
                      go_simp
                      go_at_call 11
                      refine Calls.mono (HNC.out _ q0) ?_
                      rintro r Z1 ⟨rfl, a1⟩
                      have q1 := below_next q0 a1
                      refine hK _ _ (fun _ => HC.out _ q1) ?_
                      clear hK K HeldS
                      refine Rg.wpD_pure 5 (v := ?_) (by simp only [List.getElem?_toArray, List.getElem?_cons_succ, List.getElem?_cons_zero]; rfl) (by kernel_rfl) (by kernel_rfl) (by intro _ _ _ h; exact h) (by rfl) (fun wz => ?_) ?_
                      rotate_left
                      · first | (go_simp; done) | (go_simp; with_reducible rfl)
                      simp only [Act.put, List.setIfInBounds_toArray, List.set_cons_succ, List.set_cons_zero]
                      refine Rg.wpD_pure 6 (v := ?_) (by simp only [List.getElem?_toArray, List.getElem?_cons_succ, List.getElem?_cons_zero]; rfl) (by kernel_rfl) (by kernel_rfl) (by intro _ _ _ h; exact h) (by rfl) (fun wz => ?_) ?_
                      rotate_left
                      · first | (go_simp; done) | (go_simp; with_reducible rfl)
                      simp only [Act.put, List.setIfInBounds_toArray, List.set_cons_succ, List.set_cons_zero]
                      have HeldS := HC.out _ q1
                      cases NV with
                      | true =>
                        refine Rg.wpD_skip 7 (by simp only [List.getElem?_toArray, List.getElem?_cons_succ, List.getElem?_cons_zero]; rfl) (by kernel_rfl) (by kernel_rfl) (by intro _ _ _ h; exact h) HeldS (by rfl) ?_
                        simp only [Act.put, List.setIfInBounds_toArray, List.set_cons_succ, List.set_cons_zero]
                        refine Rg.wpD_skip 8 (by simp only [List.getElem?_toArray, List.getElem?_cons_succ, List.getElem?_cons_zero]; rfl) (by kernel_rfl) (by kernel_rfl) (by intro _ _ _ h; exact h) HeldS (by rfl) ?_
                        simp only [Act.put, List.setIfInBounds_toArray, List.set_cons_succ, List.set_cons_zero]
                        refine Rg.wpD_skip 9 (by simp only [List.getElem?_toArray, List.getElem?_cons_succ, List.getElem?_cons_zero]; rfl) (by kernel_rfl) (by kernel_rfl) (by intro _ _ _ h; exact h) HeldS (by rfl) ?_
                        simp only [Act.put, List.setIfInBounds_toArray, List.set_cons_succ, List.set_cons_zero]
                        refine Rg.wpD_skip 10 (by simp only [List.getElem?_toArray, List.getElem?_cons_succ, List.getElem?_cons_zero]; rfl) (by kernel_rfl) (by kernel_rfl) (by intro _ _ _ h; exact h) HeldS (by rfl) ?_
                        simp only [Act.put, List.setIfInBounds_toArray, List.set_cons_succ, List.set_cons_zero]
                        refine Rg.wpD_skip 11 (by simp only [List.getElem?_toArray, List.getElem?_cons_succ, List.getElem?_cons_zero]; rfl) (by kernel_rfl) (by kernel_rfl) (by intro _ _ _ h; exact h) HeldS (by rfl) ?_
                        simp only [Act.put, List.setIfInBounds_toArray, List.set_cons_succ, List.set_cons_zero]
                        refine Rg.wpD_skip 12 (by simp only [List.getElem?_toArray, List.getElem?_cons_succ, List.getElem?_cons_zero]; rfl) (by kernel_rfl) (by kernel_rfl) (by intro _ _ _ h; exact h) HeldS (by rfl) ?_
                        simp only [Act.put, List.setIfInBounds_toArray, List.set_cons_succ, List.set_cons_zero]
                        refine Rg.wpD_skip 13 (by simp only [List.getElem?_toArray, List.getElem?_cons_succ, List.getElem?_cons_zero]; rfl) (by kernel_rfl) (by kernel_rfl) (by intro _ _ _ h; exact h) HeldS (by rfl) ?_
                        simp only [Act.put, List.setIfInBounds_toArray, List.set_cons_succ, List.set_cons_zero]
                        refine Rg.wpD_skip 14 (by simp only [List.getElem?_toArray, List.getElem?_cons_succ, List.getElem?_cons_zero]; rfl) (by kernel_rfl) (by kernel_rfl) (by intro _ _ _ h; exact h) HeldS (by rfl) ?_
                        simp only [Act.put, List.setIfInBounds_toArray, List.set_cons_succ, List.set_cons_zero]
                        refine Rg.wpD_skip 15 (by simp only [List.getElem?_toArray, List.getElem?_cons_succ, List.getElem?_cons_zero]; rfl) (by kernel_rfl) (by kernel_rfl) (by intro _ _ _ h; exact h) HeldS (by rfl) ?_
                        simp only [Act.put, List.setIfInBounds_toArray, List.set_cons_succ, List.set_cons_zero]
                        refine Rg.wpD_skip 16 (by simp only [List.getElem?_toArray, List.getElem?_cons_succ, List.getElem?_cons_zero]; rfl) (by kernel_rfl) (by kernel_rfl) (by intro _ _ _ h; exact h) HeldS (by rfl) ?_
                        simp only [Act.put, List.setIfInBounds_toArray, List.set_cons_succ, List.set_cons_zero]
                        refine Rg.wpD_skip 17 (by simp only [List.getElem?_toArray, List.getElem?_cons_succ, List.getElem?_cons_zero]; rfl) (by kernel_rfl) (by kernel_rfl) (by intro _ _ _ h; exact h) HeldS (by rfl) ?_
                        simp only [Act.put, List.setIfInBounds_toArray, List.set_cons_succ, List.set_cons_zero]
                        refine Rg.wpD_skip 18 (by simp only [List.getElem?_toArray, List.getElem?_cons_succ, List.getElem?_cons_zero]; rfl) (by kernel_rfl) (by kernel_rfl) (by intro _ _ _ h; exact h) HeldS (by rfl) ?_
                        simp only [Act.put, List.setIfInBounds_toArray, List.set_cons_succ, List.set_cons_zero]
                        refine Rg.wpD_skip 19 (by simp only [List.getElem?_toArray, List.getElem?_cons_succ, List.getElem?_cons_zero]; rfl) (by kernel_rfl) (by kernel_rfl) (by intro _ _ _ h; exact h) HeldS (by rfl) ?_
                        simp only [Act.put, List.setIfInBounds_toArray, List.set_cons_succ, List.set_cons_zero]
                        refine Rg.wpD_skip 20 (by simp only [List.getElem?_toArray, List.getElem?_cons_succ, List.getElem?_cons_zero]; rfl) (by kernel_rfl) (by kernel_rfl) (by intro _ _ _ h; exact h) HeldS (by rfl) ?_
                        simp only [Act.put, List.setIfInBounds_toArray, List.set_cons_succ, List.set_cons_zero]
                        refine Rg.wpD_skip 21 (by simp only [List.getElem?_toArray, List.getElem?_cons_succ, List.getElem?_cons_zero]; rfl) (by kernel_rfl) (by kernel_rfl) (by intro _ _ _ h; exact h) HeldS (by rfl) ?_
                        simp only [Act.put, List.setIfInBounds_toArray, List.set_cons_succ, List.set_cons_zero]
                        refine Rg.wpD_pure 22 (v := ?_) (by simp only [List.getElem?_toArray, List.getElem?_cons_succ, List.getElem?_cons_zero]; rfl) (by kernel_rfl) (by kernel_rfl) (by intro _ _ _ h; exact h) (by rfl) (fun wz => ?_) ?_
                        rotate_left
                        · first | (go_simp; done) | (go_simp; with_reducible rfl)
                        simp only [Act.put, List.setIfInBounds_toArray, List.set_cons_succ, List.set_cons_zero]
                        refine Rg.wpD_done (by kernel_rfl) ?_
                        go_wp2
                        go_meet
                        exact ⟨by simp, q1⟩
                      | false =>
                        obtain ⟨V, hca, hcb⟩ := HSC.out rfl
                        have HCA : Hid (∀ X, Below wy.heap.size wy X → Calls Try.prog 12 #[.pointer (some ⟨rb, 0, none⟩), .int .i64 (a : Int), .agg #[.slice xp s.length xc]] X fun r' w' => r' = .returned (.bool V) ∧ Below X.heap.size X w') := hca
                        have HCB : Hid (∀ X, Below wy.heap.size wy X → Calls Try.prog 12 #[.pointer (some ⟨rb, 0, none⟩), .int .i64 (b : Int), .agg #[.slice xp s.length xc]] X fun r' w' => r' = .returned (.bool V) ∧ Below X.heap.size X w') := hcb
                        clear hca hcb
                        refine Rg.wpD_load 7 (v := ?_) (by simp only [List.getElem?_toArray, List.getElem?_cons_succ, List.getElem?_cons_zero]; rfl) (by kernel_rfl) (by kernel_rfl) (by intro _ _ _ h; exact h) HeldS (by rfl) (fun wz hz => ?_) ?_
                        rotate_left
                        · first | (go_simp; done) | (go_simp; with_reducible rfl)
                        simp only [Act.put, List.setIfInBounds_toArray, List.set_cons_succ, List.set_cons_zero]
                        refine Rg.wpD_load 8 (v := ?_) (by simp only [List.getElem?_toArray, List.getElem?_cons_succ, List.getElem?_cons_zero]; rfl) (by kernel_rfl) (by kernel_rfl) (by intro _ _ _ h; exact h) HeldS (by rfl) (fun wz hz => ?_) ?_
                        rotate_left
                        · first | (go_simp; done) | (go_simp; with_reducible rfl)
                        simp only [Act.put, List.setIfInBounds_toArray, List.set_cons_succ, List.set_cons_zero]
                        refine Rg.wpD_load 9 (v := ?_) (by simp only [List.getElem?_toArray, List.getElem?_cons_succ, List.getElem?_cons_zero]; rfl) (by kernel_rfl) (by kernel_rfl) (by intro _ _ _ h; exact h) HeldS (by rfl) (fun wz hz => ?_) ?_
                        rotate_left
                        · first | (go_simp; done) | (go_simp; with_reducible rfl)
                        simp only [Act.put, List.setIfInBounds_toArray, List.set_cons_succ, List.set_cons_zero]
                        refine Rg.wpD_load 10 (v := ?_) (by simp only [List.getElem?_toArray, List.getElem?_cons_succ, List.getElem?_cons_zero]; rfl) (by kernel_rfl) (by kernel_rfl) (by intro _ _ _ h; exact h) HeldS (by rfl) (fun wz hz => ?_) ?_
                        rotate_left
                        · first | (go_simp; done) | (go_simp; with_reducible rfl)
                        simp only [Act.put, List.setIfInBounds_toArray, List.set_cons_succ, List.set_cons_zero]
                        refine Rg.wpD_load 11 (v := ?_) (by simp only [List.getElem?_toArray, List.getElem?_cons_succ, List.getElem?_cons_zero]; rfl) (by kernel_rfl) (by kernel_rfl) (by intro _ _ _ h; exact h) HeldS (by rfl) (fun wz hz => ?_) ?_
                        rotate_left
                        · first | (go_simp; done) | (go_simp; with_reducible rfl)
                        simp only [Act.put, List.setIfInBounds_toArray, List.set_cons_succ, List.set_cons_zero]
                        refine Rg.wpD_load 12 (v := ?_) (by simp only [List.getElem?_toArray, List.getElem?_cons_succ, List.getElem?_cons_zero]; rfl) (by kernel_rfl) (by kernel_rfl) (by intro _ _ _ h; exact h) HeldS (by rfl) (fun wz hz => ?_) ?_
                        rotate_left
                        · first | (go_simp; done) | (go_simp; with_reducible rfl)
                        simp only [Act.put, List.setIfInBounds_toArray, List.set_cons_succ, List.set_cons_zero]
                        refine Rg.wpD_load 14 (v := ?_) (by simp only [List.getElem?_toArray, List.getElem?_cons_succ, List.getElem?_cons_zero]; rfl) (by kernel_rfl) (by kernel_rfl) (by intro _ _ _ h; exact h) HeldS (by rfl) (fun wz hz => ?_) ?_
                        rotate_left
                        · first | (go_simp; done) | (go_simp; with_reducible rfl)
                        simp only [Act.put, List.setIfInBounds_toArray, List.set_cons_succ, List.set_cons_zero]
                        refine Rg.wpD_load 15 (v := ?_) (by simp only [List.getElem?_toArray, List.getElem?_cons_succ, List.getElem?_cons_zero]; rfl) (by kernel_rfl) (by kernel_rfl) (by intro _ _ _ h; exact h) HeldS (by rfl) (fun wz hz => ?_) ?_
                        rotate_left
                        · first | (go_simp; done) | (go_simp; with_reducible rfl)
                        simp only [Act.put, List.setIfInBounds_toArray, List.set_cons_succ, List.set_cons_zero]
                        refine Rg.wpD_load 16 (v := ?_) (by simp only [List.getElem?_toArray, List.getElem?_cons_succ, List.getElem?_cons_zero]; rfl) (by kernel_rfl) (by kernel_rfl) (by intro _ _ _ h; exact h) HeldS (by rfl) (fun wz hz => ?_) ?_
                        rotate_left
                        · first | (go_simp; done) | (go_simp; with_reducible rfl)
                        simp only [Act.put, List.setIfInBounds_toArray, List.set_cons_succ, List.set_cons_zero]
                        refine Rg.wpD_load 17 (v := ?_) (by simp only [List.getElem?_toArray, List.getElem?_cons_succ, List.getElem?_cons_zero]; rfl) (by kernel_rfl) (by kernel_rfl) (by intro _ _ _ h; exact h) HeldS (by rfl) (fun wz hz => ?_) ?_
                        rotate_left
                        · first | (go_simp; done) | (go_simp; with_reducible rfl)
                        simp only [Act.put, List.setIfInBounds_toArray, List.set_cons_succ, List.set_cons_zero]
                        refine Rg.wpD_load 18 (v := ?_) (by simp only [List.getElem?_toArray, List.getElem?_cons_succ, List.getElem?_cons_zero]; rfl) (by kernel_rfl) (by kernel_rfl) (by intro _ _ _ h; exact h) HeldS (by rfl) (fun wz hz => ?_) ?_
                        rotate_left
                        · first | (go_simp; done) | (go_simp; with_reducible rfl)
                        simp only [Act.put, List.setIfInBounds_toArray, List.set_cons_succ, List.set_cons_zero]
                        refine Rg.wpD_load 19 (v := ?_) (by simp only [List.getElem?_toArray, List.getElem?_cons_succ, List.getElem?_cons_zero]; rfl) (by kernel_rfl) (by kernel_rfl) (by intro _ _ _ h; exact h) HeldS (by rfl) (fun wz hz => ?_) ?_
                        rotate_left
                        · first | (go_simp; done) | (go_simp; with_reducible rfl)
                        simp only [Act.put, List.setIfInBounds_toArray, List.set_cons_succ, List.set_cons_zero]
                        refine Rg.wpD_do 13 (by kernel_rfl) (by simp only [List.getElem?_toArray, List.getElem?_cons_succ, List.getElem?_cons_zero]; rfl) (fun K hK => ?_)
                        go_simp
                        go_at_call 12
                        refine Calls.mono (HCA.out _ q1) ?_
                        rintro r Z2 ⟨rfl, a2⟩
                        have q2 := below_next q1 a2
                        refine hK _ _ (fun _ => HC.out _ q2) ?_
                        clear hK K HeldS
                        refine Rg.wpD_do 20 (by kernel_rfl) (by simp only [List.getElem?_toArray, List.getElem?_cons_succ, List.getElem?_cons_zero]; rfl) (fun K hK => ?_)
                        go_simp
                        go_at_call 12
                        refine Calls.mono (HCB.out _ q2) ?_
                        rintro r Z3 ⟨rfl, a3⟩
                        have q3 := below_next q2 a3
                        refine hK _ _ (fun _ => HC.out _ q3) ?_
                        clear hK K
                        refine Rg.wpD_pure 21 (v := ?_) (by simp only [List.getElem?_toArray, List.getElem?_cons_succ, List.getElem?_cons_zero]; rfl) (by kernel_rfl) (by kernel_rfl) (by intro _ _ _ h; exact h) (by rfl) (fun wz => ?_) ?_
                        rotate_left
                        · first | (go_simp; done) | (go_simp; with_reducible rfl)
                        simp only [Act.put, List.setIfInBounds_toArray, List.set_cons_succ, List.set_cons_zero]
                        refine Rg.wpD_pure 22 (v := ?_) (by simp only [List.getElem?_toArray, List.getElem?_cons_succ, List.getElem?_cons_zero]; rfl) (by kernel_rfl) (by kernel_rfl) (by intro _ _ _ h; exact h) (by rfl) (fun wz => ?_) ?_
                        rotate_left
                        · first | (go_simp; done) | (go_simp; with_reducible rfl)
                        simp only [Act.put, List.setIfInBounds_toArray, List.set_cons_succ, List.set_cons_zero]
                        refine Rg.wpD_done (by kernel_rfl) ?_
                        go_wp2
                        go_meet
                        exact ⟨by simp, q3⟩
                    case rest =>
                      rename World => wz
                      obtain ⟨rfl, bZ⟩ := hcut
                      have b9 := below_next HBY.out bZ
                      go_wp2
                      go_roundw
                      case rel => exact ⟨i + 1, by go_num, by omega, b9⟩
                      case measure => simp [intOf]; omega
                  · have hii : ¬ (i : Int) < (ss.length : Int) := by omega
                    have b9 := below_next HBX.out (below_next HB7.out HBY.out)
                    go_wp2
                    go_roundw
                    case rel => exact ⟨b + 1, by go_num, by omega, b9⟩
                    case measure => simp [intOf]; omega
            · have hbi : ¬ (b : Int) < (a : Int) := by omega
              have b9 := H3X.out
              go_wp2
              go_roundw
              case rel => exact ⟨a + 1, by go_num, by omega, b9⟩
              case measure => simp [intOf]; omega
        · have hai : ¬ (a : Int) < (ns.length : Int) := by omega
          have b9 := below_next B3 bw
          go_wp2
          go_ret
          exact ⟨rfl, b9⟩


set_option maxRecDepth 100000 in
theorem revalNames_lifted (os : Os) (started : os.Started) (H : Type) (enc : TypeId × Value → H) :
    ReturnsInHanded {} Try.checked os 3 .any (Rows.revalNamesSpec.pre6 enc Try.prog Try.f3 Rows.revalNamesRow.domain false) (Rows.revalNamesSpec.post enc Try.prog Try.f3 false true false false) := by
  refine returnsInHanded_of_change_sized (C := Try.checked) ownNone started (by kernel_rfl) Try.func3
    (ChangeSpec.witness6 (enc := enc) (C := Try.checked) false ⟨#[], #[.slice none 0 0, .slice none 0 0], []⟩ 8 (by kernel_rfl) (by kernel_rfl) (by kernel_rfl) (by kernel_rfl)) ?_
  intro W base args ds gs before hval hW _ hsz0 _
  have hW' := hW
  obtain ⟨p, q, hA0, hV, rfl, hfz, hnd⟩ := hW
  have hA : DataW.TrodAll enc Try.prog W 0 (fun _ => true) true Try.f3.params.toList args.toList ds p := hA0
  rw [Try.params3] at hA hval hsz0
  obtain ⟨v0, vs0, d0, ds0, p0, q0, hargs, rfl, rfl, h0, r0⟩ := trodAll_cons hA
  obtain ⟨v1, vs1, d1, ds1, p1, q1, rfl, rfl, rfl, h1, r1⟩ := trodAll_cons r0
  obtain ⟨rfl, rfl, rfl⟩ := trodAll_nil r1
  obtain rfl : args = #[v0, v1] := by cases args; simp_all
  obtain ⟨rfl, rfl⟩ := trodVars_none hV
  have hsz := List.all_eq_true.1 hsz0
  obtain ⟨a0, len0, cap0, rfl⟩ := okWide_slice Try.underlying22 (hval 0 22 v0 rfl rfl)
  have k0 := h0
  have lt0 : ∀ x ∈ p0, x.block < W.heap.size := by obtain ⟨m, hm⟩ := k0; exact DataW.trod_lt m _ _ _ hm
  obtain ⟨z0, w0, y0, u0⟩ := Dm.nodesAt_of_reads k0 (fun n hn => by simpa using hsz n (DataW.weights_mem_each (j := 0) rfl rfl n hn))
  obtain ⟨a1, len1, cap1, rfl⟩ := okWide_slice Try.underlying23 (hval 1 23 v1 rfl rfl)
  have k1 := h1
  have lt1 : ∀ x ∈ p1, x.block < W.heap.size := by obtain ⟨m, hm⟩ := k1; exact DataW.trod_lt m _ _ _ hm
  obtain ⟨z1, w1, y1⟩ := selsAt_of_reads k1 (fun n hn => by simpa using hsz n (DataW.weights_mem_each (j := 1) rfl rfl n hn))
  clear hA0
  refine (revalNames_walk W _ z0 w0 y0 u0 _ z1 w1 y1).mono fun e W' ⟨he, bel⟩ => ?_
  subst he
  exact ⟨_, rfl, _, _, _, [], _, [], hW', trodAll_mk1 (shut_bool Try.underlying4 _), (trodAll_cons_mk (Below.trod laidOut (by kernel_rfl) (of_decide_eq_true (by kernel_rfl)) k0 bel lt0) (trodAll_cons_mk (Below.trod laidOut (by kernel_rfl) (of_decide_eq_true (by kernel_rfl)) k1 bel lt1) trodAll_mk0)), rfl, bel.frame _, fun h => by cases h⟩

theorem revalNames_said : Rows.RevalNamesSaid :=
  OpenClaim.holds_of_wide 3 Try.f3 rfl rfl rfl rfl rfl rfl rfl ⟨rfl, rfl, rfl, rfl, rfl⟩ rfl rfl rfl rfl rfl (by kernel_rfl) Try.func3 (by kernel_rfl)
    (of_decide_eq_true (by kernel_rfl)) (by unfold Func.isWrapper; first | (rw [if_pos (by decide +kernel)]; kernel_rfl) | (rw [if_neg (by decide +kernel)]; exact ⟨rfl, rfl⟩))
    (fun os started H enc _ => revalNames_lifted os started H enc)
#print axioms revalNames_said


end Go.Proofs.Ytcdimmabnklcnaa
