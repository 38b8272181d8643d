/- The laws' own Dear of selectors (tapestrierlaw10): whatever it tells, it comes back. -/
import Derived.Test.YtnemagmakgiheaaGreatWgMem
import Derived.Test.YtnemagmakgiheaaGreatWgArgs
set_option maxRecDepth 100000
namespace Go.Proofs.YtnemagmakgiheaaGreat.Wg
open Go.Proofs.YtnemagmakgiheaaGreat.Tre
open Go Go.RowKit Sl
def FewC (c:Cp):Prop:=c.ids.length ≤ 5 ∧ c.classes.length ≤ 5 ∧ c.attrs.length ≤ 5 ∧ c.pss.length ≤ 5
def FewS (s:Sel):Prop:=s.length ≤ 60 ∧ ∀ p ∈ s,FewC p.2
def FewL (l:List Sel):Prop:=∀ s ∈ l,FewS s
def FewD:Nat → List Sel → Prop
 | 0,_ => False
 | d + 1,l => ∀ s ∈ l,s.length ≤ 60 ∧ ∀ p ∈ s,FewC p.2 ∧ ∀ u ∈ p.2.pss,FewD d u.list
def FewQ (d:Nat) (c:Cp):Prop:=FewC c ∧ ∀ u ∈ c.pss,FewD d u.list
def FewT (d:Nat) (s:Sel):Prop:=s.length ≤ 60 ∧ ∀ p ∈ s,FewQ d p.2
theorem FewD.few {d:Nat} {l:List Sel} (h:FewD d l):FewL l:=by
 cases d with
 | zero => exact absurd h (by simp [FewD])
 | succ d => exact fun s hs => ⟨(h s hs).1,fun p hp => ((h s hs).2 p hp).1⟩
def limB:Nat → Int
 | 0 => 100
 | d + 1 => 110 + 3 * limB d
theorem limB_le:∀ d,d ≤ 11 → 100 ≤ limB d ∧ limB d ≤ 100000000:=by decide
theorem mem_take_more {α:Type} {l:List α} {k:Nat} {x y:α} (h:l[k]? = some x) (hy:y ∈ l.take (k + 1)):y ∈ l.take k ∨ y = x:=by
 obtain ⟨hk,rfl⟩:=List.getElem?_eq_some_iff.1 h
 rw [List.take_succ_eq_append_getElem hk,List.mem_append,List.mem_singleton] at hy
 exact hy
def DearOK (d:Nat):Prop:=∀ (v:Value) (l:List Sel) (w:World),SelsR d w.heap.size w v l → Calls Tryz.prog 40 #[v,.int .i64 (11 - (d:Int))] w fun e w' => ∃ z:Int,e = .returned (.int .i64 z) ∧ Hid (0 ≤ z ∧ z ≤ limB d ∧ (z < 100 → FewD d l)) ∧ Below w.heap.size w w'
theorem hid_hundred (d:Nat) (hd:d ≤ 11) (l:List Sel):Hid ((0:Int) ≤ 100 ∧ 100 ≤ limB d ∧ ((100:Int) < 100 → FewD d l)):=⟨by omega,(limB_le d hd).1,fun h => by omega⟩
theorem dear_zero:DearOK 0:=by
 intro v l w hv
 obtain ⟨q,m,cap,rfl⟩:=hv.form
 clear hv
 show Calls Tryz.prog 40 #[_,.int .i64 11] w _
 go_enter Tryz.func40,Tryz.ntmps40
 go_wp2
 go_ret
 exact ⟨100,rfl,hid_hundred 0 (by omega) l,Below.refl _ _⟩
set_option maxHeartbeats 2000000 in
theorem dear_succ (d:Nat) (hd:d ≤ 10) (H:DearOK d):DearOK (d + 1):=by
 intro v l w hv
 obtain ⟨q,cap,rfl⟩:=RowT.len hv
 obtain ⟨D,hD⟩:∃ D:Int,11 - ((d + 1:Nat):Int) = D:=⟨_,rfl⟩
 rw [hD]
 have hD0:¬ (10 < D):=by omega
 have hD1:IntKind.i64.wrap (D + 1) = 11 - (d:Int):=by rw [IntKind.wrap_i64];omega
 have hDr:0 ≤ D ∧ D ≤ 10:=by omega
 have HLB:Hid (100 ≤ limB d ∧ limB d ≤ 100000000 ∧ limB (d + 1) = 110 + 3 * limB d):=⟨(limB_le d (by omega)).1,(limB_le d (by omega)).2,rfl⟩
 have HUN:Hid (∀ l,Hid ((0:Int) ≤ 100 ∧ 100 ≤ limB (d + 1) ∧ ((100:Int) < 100 → FewD (d + 1) l))):=fun l => hid_hundred (d + 1) (by omega) l
 have HD:Hid (DearOK d):=H
 have HV:Hid (SelsR (d + 1) w.heap.size w (.slice q l.length cap) l):=hv
 clear H hv hD
 go_enter Tryz.func40,Tryz.ntmps40
 go_wp2
 go_loopw [5,6] (fun x5 x6 wr => ∃ (z:Int) (k:Nat),x5 = .int .i64 z ∧ x6 = .int .i64 k ∧ k ≤ l.length ∧ Below w.heap.size w wr ∧ Hid (0 ≤ z ∧ z ≤ limB (d + 1) ∧ (z < 100 → ∀ s ∈ l.take k,FewT d s))) (fun _ x6 _ => l.length - (intOf x6).toNat)
 case atStart => exact ⟨0,0,rfl,rfl,Nat.zero_le _,Below.refl _ _,(by have:=HLB.out;exact ⟨by omega,by omega,fun _ s hs => by simp at hs⟩)⟩
 case round =>
  obtain ⟨z,k,rfl,rfl,hk,hb,HZ⟩:=hrel
  by_cases hlt:k < l.length
  ·have hki:(k:Int) < (l.length:Int):=by omega
   by_cases hz:z < 100
   ·obtain ⟨s,hs⟩:∃ s,l[k]? = some s:=⟨_,List.getElem?_eq_getElem hlt⟩
    obtain ⟨b,off,x,hq,hbn,hc1,hc2,hx,y0⟩:=SelsR.get (HV.out.below (d + 1) hb) hs
    subst hq
    unfold maxLen at hc2
    obtain ⟨qp,cp,rfl⟩:=RowT.len hx
    have hsh:=hx.short
    unfold maxLen at hsh
    have HX:Hid (∀ X,Below w.heap.size w X → PartsR d w.heap.size X (.slice qp s.length cp) s):=fun X hX => by
     obtain ⟨b',off',x',hq',_,_,_,hx',y'⟩:=SelsR.get (HV.out.below (d + 1) hX) hs
     cases hq'
     have e:=(hX.cell (p:=⟨b,off + k,none⟩) hbn).trans (hb.cell (p:=⟨b,off + k,none⟩) hbn).symm
     rw [y',y0] at e
     cases e
     exact hx'
    have hk1:(k:Int) + 1 ≤ 9223372036854775807:=by omega
    have HSK:Hid (l[k]? = some s):=hs
    clear hx hs
    go_upto_region 8 with fail
    clear y0
    obtain ⟨N,hN⟩:∃ N,s.length = N:=⟨_,rfl⟩
    rw [hN] at HX hsh ⊢
    go_cut [40] (fun x wx => ∃ t:Bool,x = .bool t ∧ wx = wr ∧ Hid (t = false → N ≤ 60))
    case first =>
     clear HX
     by_cases h1:(12:Int) < (N:Int)
     ·by_cases h2:(N:Int) < 50
      ·have HT:Hid (true = false → N ≤ 60):=fun h => (by cases h)
       go_wp2
       go_meet
       exact ⟨_,rfl,rfl,HT⟩
      ·by_cases h3:(60:Int) < (N:Int)
       ·have HT:Hid (true = false → N ≤ 60):=fun h => (by cases h)
        go_wp2
        go_meet
        exact ⟨_,rfl,rfl,HT⟩
       ·have HT:Hid (N ≤ 60):=(by show N ≤ 60;omega)
        go_wp2
        go_meet
        exact ⟨_,rfl,rfl,fun _ => HT.out⟩
     ·have h3:¬ ((60:Int) < (N:Int)):=by omega
      have HT:Hid (N ≤ 60):=(by show N ≤ 60;omega)
      go_wp2
      go_meet
      exact ⟨_,rfl,rfl,fun _ => HT.out⟩
    case rest =>
    obtain ⟨t,rfl,rfl,HT⟩:=hcut
    obtain ⟨wo,hwo⟩:∃ wo,wo = wc:=⟨_,rfl⟩
    subst hwo
    cases t with
    | true =>
     go_wp2
     go_ret
     first | exact ⟨⟨100,rfl,HUN.out l⟩,hb⟩ | exact ⟨100,rfl,HUN.out l,hb⟩
    | false =>
     have HBO:Hid (Below w.heap.size w wo):=hb
     have HS:Hid (s.length = N):=hN
     have HN60:Hid (N ≤ 60):=HT.out rfl
     clear hN hb HT
     go_wp2
     go_loopw [5,8] (fun x5 x8 wr => ∃ (z:Int) (j:Nat),x5 = .int .i64 z ∧ x8 = .int .i64 j ∧ j ≤ N ∧ Below w.heap.size w wr ∧ Hid (0 ≤ z ∧ z ≤ limB (d + 1) ∧ (z < 100 → (∀ s ∈ l.take k,FewT d s) ∧ ∀ p ∈ s.take j,FewQ d p.2))) (fun _ x8 _ => N - (intOf x8).toNat)
     case atStart => exact ⟨z,0,rfl,rfl,Nat.zero_le _,HBO.out,(by have:=HZ.out;exact ⟨this.1,this.2.1,fun h => ⟨this.2.2 h,fun p hp => by simp at hp⟩⟩)⟩
     case round =>
      obtain ⟨z2,j,rfl,rfl,hj,hb,HZ2⟩:=hrel
      by_cases hjl:j < N
      ·have hji:(j:Int) < (N:Int):=by omega
       by_cases hz2:z2 < 100
       ·obtain ⟨p,hp⟩:∃ p,s[j]? = some p:=⟨_,List.getElem?_eq_getElem (by rw [HS.out];exact hjl)⟩
        have hxx:=HX.out wr hb
        obtain ⟨b2,off2,vi,vk,va,vp,hq,hbn2,hd1,hd2,⟨x0,x1,x2,x3,x4,x5⟩,r1,r2,r3,r4⟩:=PartsR.get hxx hp
        subst hq
        unfold maxLen at hd2
        rw [HS.out] at hd1
        obtain ⟨q1,cp1,rfl⟩:=r1.len
        obtain ⟨q2,cp2,rfl⟩:=r2.len
        obtain ⟨q3,cp3,rfl⟩:=r3.len
        obtain ⟨q4,cp4,rfl⟩:=r4.len
        have h4s:=r4.short
        unfold maxLen at h4s
        obtain ⟨w3,hw3⟩:∃ w3,wr.alloc (.cells #[.string p.2.tag,.slice q1 p.2.ids.length cp1,.slice q2 p.2.classes.length cp2,.slice q3 p.2.attrs.length cp3,.slice q4 p.2.pss.length cp4] 45) = w3:=⟨_,rfl⟩
        have b3:Below wr.heap.size wr w3:=by rw [← hw3];exact (Below.refl _ _).alloc (Nat.le_refl _) _
        have k3:Blk w3 wr.heap.size 45 [.string p.2.tag,.slice q1 p.2.ids.length cp1,.slice q2 p.2.classes.length cp2,.slice q3 p.2.attrs.length cp3,.slice q4 p.2.pss.length cp4]:=by rw [← hw3];exact Blk.new wr 45 _
        have r4':=r4.below (hb:=b3.mono (hb.size)) (T':=PsC (SelsR d w.heap.size w3)) (fun _ _ ⟨x,e,hx⟩ => ⟨x,e,hx.below d (b3.mono hb.size)⟩)
        have B3:=below_next hb b3
        have HR4:Hid (RowT 4 (PsC (SelsR d w.heap.size w3)) w.heap.size w3 (.slice q4 p.2.pss.length cp4) p.2.pss):=r4'
        have HK3:Hid (Blk w3 wr.heap.size 45 [.string p.2.tag,.slice q1 p.2.ids.length cp1,.slice q2 p.2.classes.length cp2,.slice q3 p.2.attrs.length cp3,.slice q4 p.2.pss.length cp4]):=k3
        obtain ⟨⟨c0,c1,c2,c3,c4⟩,_⟩:=blk5 k3
        have hj1:(j:Int) + 1 ≤ 9223372036854775807:=by omega
        have hws:=hb.size
        have HPJ:Hid (s[j]? = some p):=hp
        have hwz:IntKind.i64.wrap (z2 + 1) = z2 + 1:=by rw [IntKind.wrap_i64];have:=HZ2.out;omega
        have hwd:IntKind.i64.wrap (z2 + 1 + D) = z2 + 1 + D:=by rw [IntKind.wrap_i64];have:=HZ2.out;omega
        clear hxx r1 r2 r3 r4 r4' k3 hp hb
        obtain ⟨n1,hn1⟩:∃ n,p.2.ids.length = n:=⟨_,rfl⟩
        obtain ⟨n2,hn2⟩:∃ n,p.2.classes.length = n:=⟨_,rfl⟩
        obtain ⟨n3,hn3⟩:∃ n,p.2.attrs.length = n:=⟨_,rfl⟩
        obtain ⟨n4,hn4⟩:∃ n,p.2.pss.length = n:=⟨_,rfl⟩
        rw [hn1] at hw3 HK3 c1 x2
        rw [hn2] at hw3 HK3 c2 x3
        rw [hn3] at hw3 HK3 c3 x4
        rw [hn4] at hw3 HK3 c4 HR4 x5 h4s
        have HFC:Hid (n1 ≤ 5 → n2 ≤ 5 → n3 ≤ 5 → n4 ≤ 5 → FewC p.2):=fun a b c e => ⟨by omega,by omega,by omega,by omega⟩
        clear hn1 hn2 hn3
        have HN4:Hid (p.2.pss.length = n4):=hn4
        clear hn4
        go_upto_region 15 with fail
        first | rw [hw3] | skip
        clear hw3 x0 x1 x2 x3 x4 x5 b3
        go_cut [81] (fun x wx => ∃ t:Bool,x = .bool t ∧ wx = w3 ∧ Hid (t = false → FewC p.2))
        case first =>
         clear HX HR4 HK3
         have HTT:Hid (true = false → FewC p.2):=fun h => (by cases h)
         by_cases h1:(5:Int) < (n1:Int)
         ·go_wp2
          go_meet
          exact ⟨_,rfl,rfl,HTT⟩
         ·by_cases h2:(5:Int) < (n2:Int)
          ·go_wp2
           go_meet
           exact ⟨_,rfl,rfl,HTT⟩
          ·by_cases h3:(5:Int) < (n3:Int)
           ·go_wp2
            go_meet
            exact ⟨_,rfl,rfl,HTT⟩
           ·by_cases h4:(5:Int) < (n4:Int)
            ·go_wp2
             go_meet
             exact ⟨_,rfl,rfl,HTT⟩
            ·have HTF:Hid (FewC p.2):=HFC.out (by omega) (by omega) (by omega) (by omega)
             go_wp2
             go_meet
             exact ⟨_,rfl,rfl,fun _ => HTF.out⟩
        case rest =>
        obtain ⟨t,rfl,rfl,HT⟩:=hcut
        clear c0 c1 c2 c3 c4
        cases t with
        | true =>
         go_wp2
         go_ret
         first | exact ⟨⟨100,rfl,HUN.out l⟩,B3⟩ | exact ⟨100,rfl,HUN.out l,B3⟩
        | false =>
         obtain ⟨wi,hwi⟩:∃ wi,wi = wr:=⟨_,rfl⟩
         subst hwi
         have HFP:Hid (FewC p.2):=HT.out rfl
         have HZP:Hid (0 ≤ z2 + 1 + D ∧ z2 + 1 + D ≤ limB (d + 1) ∧ (z2 + 1 + D < 100 → (∀ s ∈ l.take k,FewT d s) ∧ ∀ q ∈ s.take j,FewQ d q.2)):=by
          have h1:=HZ2.out
          have h2:=HLB.out
          exact ⟨by omega,by omega,fun h => h1.2.2 (by omega)⟩
         clear HT
         go_wp2
         clear hwz hwd
         go_loopw [5,10] (fun x5 x10 wr => ∃ (z:Int) (m:Nat),x5 = .int .i64 z ∧ x10 = .int .i64 m ∧ m ≤ n4 ∧ Below wc.heap.size wc wr ∧ Hid (0 ≤ z ∧ z ≤ limB (d + 1) ∧ (z < 100 → (∀ s ∈ l.take k,FewT d s) ∧ (∀ q ∈ s.take j,FewQ d q.2) ∧ ∀ u ∈ p.2.pss.take m,FewD d u.list))) (fun _ x10 _ => n4 - (intOf x10).toNat)
         case atStart => exact ⟨_,0,rfl,rfl,Nat.zero_le _,Below.refl _ _,⟨HZP.out.1,HZP.out.2.1,fun h => ⟨(HZP.out.2.2 h).1,(HZP.out.2.2 h).2,fun u hu => by simp at hu⟩⟩⟩
         case round =>
          obtain ⟨z4,m,rfl,rfl,hm,hb4,HZ4⟩:=hrel
          have HEND:Hid ((m < n4 → ¬ z4 < 100) → 0 ≤ z4 ∧ z4 ≤ limB (d + 1) ∧ (z4 < 100 → (∀ s ∈ l.take k,FewT d s) ∧ ∀ q ∈ s.take (j + 1),FewQ d q.2)):=by
           have h1:=HZ4.out
           refine fun hmn => ⟨h1.1,h1.2.1,fun h => ⟨(h1.2.2 h).1,fun q hq => ?_⟩⟩
           rcases mem_take_more HPJ.out hq with hq | rfl
           ·exact (h1.2.2 h).2.1 q hq
           ·refine ⟨HFP.out,fun u hu => (h1.2.2 h).2.2 u ?_⟩
            rw [List.take_of_length_le (by
             rw [HN4.out]
             rcases Nat.lt_or_ge m n4 with g | g
             ·exact absurd h (hmn g)
             ·exact g)]
            exact hu
          obtain ⟨⟨c0,c1,c2,c3,c4⟩,_⟩:=blk5 (HK3.out.below hb4 HK3.out.lt)
          by_cases hml:m < n4
          ·have hmi:(m:Int) < (n4:Int):=by omega
           by_cases hz4:z4 < 100
           ·obtain ⟨u,hu⟩:∃ u,p.2.pss[m]? = some u:=⟨_,List.getElem?_eq_getElem (by rw [HN4.out];exact hml)⟩
            obtain ⟨b5,off5,y,hq5,hbn5,he1,he2,hQ,⟨u0,u1,u2,u3⟩⟩:=pss_get HR4.out hu
            subst hq5
            unfold maxLen at he2
            rw [HN4.out] at he1
            have hwc:=B3.size
            have v3:=(hb4.cell (p:=⟨b5,off5 + m * 4 + 3,none⟩) (by show b5 < _;omega)).trans u3
            obtain ⟨qy,my,cy,rfl⟩:=hQ.form
            have hcall:=HD.out (.slice qy my cy) u.list wr ((hQ.mono d hwc).next hb4)
            have hm1:(m:Int) + 1 ≤ 9223372036854775807:=by omega
            have HUM:Hid (p.2.pss[m]? = some u):=hu
            clear hQ u0 u1 u2 u3 hu
            go_wp2_with fail
            refine hcall.mono ?_
            clear hcall
            rintro e w5 ⟨zr,rfl,HZR,b5'⟩
            have h3r:IntKind.i64.wrap (3 * zr) = 3 * zr:=by rw [IntKind.wrap_i64];have:=HZR.out;have:=HLB.out;omega
            have h4r:IntKind.i64.wrap (z4 + 3 * zr) = z4 + 3 * zr:=by rw [IntKind.wrap_i64];have:=HZR.out;have:=HLB.out;have:=HZ4.out;omega
            have HZ5:Hid (0 ≤ z4 + 3 * zr ∧ z4 + 3 * zr ≤ limB (d + 1) ∧ (z4 + 3 * zr < 100 → (∀ s ∈ l.take k,FewT d s) ∧ (∀ q ∈ s.take j,FewQ d q.2) ∧ ∀ u ∈ p.2.pss.take (m + 1),FewD d u.list)):=by
             have h1:=HZ4.out
             have h2:=HLB.out
             have h3:=HZR.out
             refine ⟨by omega,by omega,fun h => ⟨(h1.2.2 (by omega)).1,(h1.2.2 (by omega)).2.1,fun u' hu' => ?_⟩⟩
             rcases mem_take_more HUM.out hu' with hu' | rfl
             ·exact (h1.2.2 (by omega)).2.2 u' hu'
             ·exact h3.2.2 (by omega)
            have hB5:=below_next hb4 b5'
            clear c0 c1 c2 c3 c4 v3 hb4 b5'
            go_wp2
            go_roundw
            case rel => exact ⟨_,m + 1,rfl,by go_num,by omega,hB5,HZ5⟩
            case measure => simp [intOf];omega
           ·have hB5:=below_next B3 hb4
            go_wp2
            go_roundw
            case rel => exact ⟨z4,j + 1,rfl,by go_num,by omega,hB5,HEND.out (fun _ => hz4)⟩
            case measure => simp [intOf];omega
          ·have hmi:¬ (m:Int) < (n4:Int):=by omega
           have hB5:=below_next B3 hb4
           go_wp2
           go_roundw
           case rel => exact ⟨z4,j + 1,rfl,by go_num,by omega,hB5,HEND.out (fun g => absurd g hml)⟩
           case measure => simp [intOf];omega
       ·have HE2:Hid (0 ≤ z2 ∧ z2 ≤ limB (d + 1) ∧ (z2 < 100 → ∀ s ∈ l.take (k + 1),FewT d s)):=by
         have h1:=HZ2.out
         exact ⟨h1.1,h1.2.1,fun h => absurd h hz2⟩
        go_wp2
        go_roundw
        case rel => exact ⟨z2,k + 1,rfl,by go_num,by omega,hb,HE2⟩
        case measure => simp [intOf];omega
      ·have hji:¬ (j:Int) < (N:Int):=by omega
       have HE2:Hid (0 ≤ z2 ∧ z2 ≤ limB (d + 1) ∧ (z2 < 100 → ∀ s ∈ l.take (k + 1),FewT d s)):=by
        have h1:=HZ2.out
        refine ⟨h1.1,h1.2.1,fun h s' hs' => ?_⟩
        rcases mem_take_more HSK.out hs' with hs' | rfl
        ·exact (h1.2.2 h).1 s' hs'
        ·have h2:=(h1.2.2 h).2
         rw [List.take_of_length_le (by rw [HS.out];omega)] at h2
         exact ⟨by rw [HS.out];exact HN60.out,h2⟩
       go_wp2
       go_roundw
       case rel => exact ⟨z2,k + 1,rfl,by go_num,by omega,hb,HE2⟩
       case measure => simp [intOf];omega
   ·have HF:Hid (0 ≤ z ∧ z ≤ limB (d + 1) ∧ (z < 100 → FewD (d + 1) l)):=by
     have h1:=HZ.out
     exact ⟨h1.1,h1.2.1,fun h => absurd h hz⟩
    go_wp2
    go_ret
    first | exact ⟨⟨z,rfl,HF⟩,hb⟩ | exact ⟨z,rfl,HF,hb⟩
  ·have hki:¬ (k:Int) < (l.length:Int):=by omega
   have HF:Hid (0 ≤ z ∧ z ≤ limB (d + 1) ∧ (z < 100 → FewD (d + 1) l)):=by
    have h1:=HZ.out
    rw [List.take_of_length_le (by omega)] at h1
    exact h1
   go_wp2
   go_ret
   first | exact ⟨⟨z,rfl,HF⟩,hb⟩ | exact ⟨z,rfl,HF,hb⟩
theorem dear_all:∀ d,d ≤ 11 → DearOK d
 | 0,_ => dear_zero
 | d + 1,h => dear_succ d (by omega) (dear_all d (by omega))
theorem Dear_deep (v:Value) (l:List Sel) (w:World) (hv:SelsR 11 w.heap.size w v l) :
  Calls Tryz.prog 11 #[v] w fun e w' => ∃ t:Bool,e = .returned (.bool t) ∧ Hid (t = false → FewD 11 l) ∧ Below w.heap.size w w':=by
 have h:=dear_all 11 (Nat.le_refl _) v l w hv
 rw [show (11:Int) - ((11:Nat):Int) = 0 from rfl] at h
 clear hv
 go_enter Tryz.func11,Tryz.ntmps11
 go_wp2_with fail
 refine h.mono ?_
 clear h
 rintro e w1 ⟨z,rfl,HZ,b1⟩
 have HT:Hid (decide (40 < z) = false → FewD 11 l):=fun h => HZ.out.2.2 (by have:=of_decide_eq_false h;omega)
 go_wp2
 go_ret
 first | exact ⟨⟨_,rfl,HT⟩,b1⟩ | exact ⟨_,rfl,HT,b1⟩
end Go.Proofs.YtnemagmakgiheaaGreat.Wg
/- Selectors and rules that came in as arguments: what the walk is told of them. -/
namespace Go.Proofs.YtnemagmakgiheaaGreat.Wg
open Go.Proofs.YtnemagmakgiheaaGreat.Tre
open Go Go.RowKit Go.ChangeShapes Go.WideShapes Go.ChangeAt Sl
theorem weights_all {H:Type} {P:Program} {e:TypeId}:∀ {ds:List (DataW H)} {d:DataW H},d ∈ ds → ∀ n ∈ d.weights P e,n ∈ DataW.weightsAll P e ds
 | x :: ds,d,h,n,hn => by
  rw [DataW.weightsAll,List.mem_append]
  rcases List.mem_cons.1 h with rfl | h
  ·exact .inl hn
  ·exact .inr (weights_all h n hn)
theorem addr_add' (bk off j:Nat):(⟨bk,off,none⟩:Addr).add j = ⟨bk,off + j,none⟩:=by
 unfold Addr.add
 split
 ·simp_all
 ·rfl
theorem row_in {H:Type} {enc:TypeId × Value → H} {W:World} {base fuel:Nat} {v:Value} {x:DataW H × List MemPlace} {t e:TypeId} {α:Type} [Inhabited α] (sz:Nat) (hz:0 < sz) (T:List Value → α → Prop) (Ok:α → Prop)
  (ht:Tryz.prog.underlying t = some (.slice e)) (hcells:Tryz.prog.cellsOf e = sz) (h:DataW.trod enc Tryz.prog W base (fun _ => true) true fuel t [v] = some x) (hw:∀ n ∈ x.1.weights Tryz.prog t,n ≤ reachBytes)
  (each:∀ n cs y,DataW.trod enc Tryz.prog W base (fun _ => true) true n e cs = some y → (∀ m ∈ y.1.weights Tryz.prog e,m ≤ reachBytes) → cs.length = sz → ∃ a:α,T cs a ∧ Ok a) :
  ∃ l:List α,RowT sz T W.heap.size W v l ∧ (∀ a ∈ l,Ok a) ∧ l.length * Tryz.prog.bytesOf e ≤ reachBytes:=by
 rcases Deep.open_slice ht h with ⟨hcs,_⟩ | ⟨x,len,cap,m,n,D,Pl,hcs,_,hl,hm,hmm,rfl,hel⟩
 ·cases hcs
  exact ⟨[],.inl ⟨rfl,_,_,rfl⟩,fun _ h => (by cases h),by simp⟩
 ·cases hcs
  simp only [if_true] at hmm
  subst hmm
  rw [hcells] at hel
  simp only [DataW.weights,ht] at hw
  have hD:∀ i,i < len → ∀ k ∈ (D i).weights Tryz.prog e,k ≤ reachBytes:=fun i hi k hk => hw k (List.mem_cons_of_mem _ (List.mem_append_left _ (weights_all (List.mem_map.2 ⟨i,List.mem_range.2 hi,rfl⟩) k hk)))
  have one:∀ i,i < len → ∃ a:α × List Value,Ok a.1 ∧ T a.2 a.1 ∧ a.2.length = sz ∧ ∀ j u,a.2[j]? = some u → W.cell? ((x.add (i * sz)).add j) = some u:=fun i hi => by
   obtain ⟨cs',hcs,htr⟩:=hel i (by omega)
   obtain ⟨_,hcl,hcc⟩:=World.cells?_some hcs
   obtain ⟨a,ha,hg⟩:=each n cs' _ htr (hD i hi) hcl
   refine ⟨(a,cs'),hg,ha,hcl,fun j u hj => ?_⟩
   have hjl:j < sz:=by rw [← hcl];exact (List.getElem?_eq_some_iff.1 hj).1
   rw [hcc j hjl,hj]
  obtain ⟨F,hF⟩:=Deep.choose_lt one
  have hbytes:len * Tryz.prog.bytesOf e ≤ reachBytes:=by
   have h1:=hw _ (List.mem_cons_self ..)
   simp only [List.length_map,List.length_range] at h1
   exact Nat.le_trans (Nat.mul_le_mul_right _ (Nat.le_add_right _ _)) h1
  refine ⟨(List.range len).map (fun i => (F i).1),?_,fun a ha => ?_,by simpa using hbytes⟩
  ·by_cases h0:len = 0
   ·subst h0
    exact .inl ⟨rfl,_,_,rfl⟩
   ·obtain ⟨b,off,spot⟩:=x
    obtain ⟨_,_,hf0,hF0⟩:=hF 0 (by omega)
    have hex:∃ u,(F 0).2[0]? = some u:=⟨_,List.getElem?_eq_getElem (by rw [hf0];exact hz)⟩
    obtain ⟨u0,hu0⟩:=hex
    have hc0:=hF0 0 u0 hu0
    have hspot:spot = none:=by simpa [Addr.add] using World.cell?_spot hc0
    subst hspot
    have key:∀ i j,(((⟨b,off,none⟩:Addr).add (i * sz)).add j) = ⟨b,off + i * sz + j,none⟩:=fun i j => by rw [addr_add',addr_add']
    refine .inr ⟨b,off,_,by simp,by simpa using hl,hm,World.block_lt_of_cell? W ⟨b,off,none⟩ (by rw [key] at hc0;simpa using hc0),fun j a hj => ?_⟩
    rw [List.getElem?_map] at hj
    obtain ⟨k,hk,rfl⟩:=Option.map_eq_some_iff.1 hj
    obtain ⟨h1,h2⟩:=List.getElem?_eq_some_iff.1 hk
    simp at h1 h2
    subst h2
    obtain ⟨_,g2,g3,g4⟩:=hF j (by omega)
    refine ⟨(F j).2,g3,g2,fun i u hu => ?_⟩
    have:=g4 i u hu
    rwa [key] at this
  ·obtain ⟨i,hi,rfl⟩:=List.mem_map.1 ha
   exact (hF i (List.mem_range.1 hi)).1
def NsOk (l:List ByteArray):Prop:=∀ s ∈ l,s.size ≤ 281474976710656
theorem cells_str:Tryz.prog.cellsOf 9 = 1:=by kernel_rfl
theorem cells_attr:Tryz.prog.cellsOf 154 = 3:=by kernel_rfl
theorem cells_ps:Tryz.prog.cellsOf 40 = 4:=by kernel_rfl
theorem cells_part:Tryz.prog.cellsOf 48 = 6:=by kernel_rfl
theorem cells_comp:Tryz.prog.cellsOf 45 = 5:=by kernel_rfl
theorem cells_sel:Tryz.prog.cellsOf 36 = 1:=by kernel_rfl
theorem short_lit {H:Type} {s:ByteArray} (hw:∀ m ∈ (DataW.lit (.string s.data.toList):DataW H).weights Tryz.prog 9,m ≤ reachBytes):s.size ≤ 281474976710656:=short_string (hw _ (by simp [DataW.weights]))
theorem names_in {H:Type} {enc:TypeId × Value → H} {W:World} {base fuel:Nat} {v:Value} {x:DataW H × List MemPlace} (h:DataW.trod enc Tryz.prog W base (fun _ => true) true fuel 42 [v] = some x) (hw:∀ n ∈ x.1.weights Tryz.prog 42,n ≤ reachBytes) :
  ∃ l:List ByteArray,RowT 1 StrC W.heap.size W v l ∧ NsOk l:=by
 have:Inhabited ByteArray:=⟨⟨#[]⟩⟩
 obtain ⟨l,h1,h2,_⟩:=row_in 1 (by decide) StrC (fun s => s.size ≤ 281474976710656) Tryz.underlying42 cells_str h hw (fun n cs y hy hwy hl => by
  obtain ⟨s,rfl,hys,_⟩:=DataW.trod_string Tryz.underlying9 hy
  rw [hys] at hwy
  exact ⟨s,rfl,short_lit hwy⟩)
 exact ⟨l,h1,h2⟩
theorem attrs_in {H:Type} {enc:TypeId × Value → H} {W:World} {base fuel:Nat} {v:Value} {x:DataW H × List MemPlace} (h:DataW.trod enc Tryz.prog W base (fun _ => true) true fuel 43 [v] = some x) (hw:∀ n ∈ x.1.weights Tryz.prog 43,n ≤ reachBytes) :
  ∃ l:List At,RowT 3 AtC W.heap.size W v l ∧ ∀ a ∈ l,a.name.size ≤ 281474976710656 ∧ a.text.size ≤ 281474976710656 ∧ (Lit.int .i64 a.op).wf = true:=by
 have:Inhabited At:=⟨⟨⟨#[]⟩,0,⟨#[]⟩⟩⟩
 obtain ⟨l,h1,h2,_⟩:=row_in 3 (by decide) AtC (fun a:At => a.name.size ≤ 281474976710656 ∧ a.text.size ≤ 281474976710656 ∧ (Lit.int .i64 a.op).wf = true) Tryz.underlying43 cells_attr h hw (fun n cs y hy hwy hl => by
  obtain ⟨xs,n',_,rfl,_,hxl,hf⟩:=DataW.trod_struct Tryz.underlying154 hy
  match cs,hl with
  | [c0,c1,c2],_ =>
   match xs,hxl with
   | [y0,y1,y2],_ =>
    have f0:=hf 0 _ rfl
    have f1:=hf 1 _ rfl
    have f2:=hf 2 _ rfl
    simp only [List.getElem?_cons_zero,List.getElem?_cons_succ] at f0 f1 f2
    obtain ⟨k0,g0,e0,_⟩:=DataW.trod_string Tryz.underlying9 f0
    obtain ⟨k1,g1,e1,w1⟩:=DataW.trod_int Tryz.underlying3 f1
    obtain ⟨k2,g2,e2,_⟩:=DataW.trod_string Tryz.underlying9 f2
    cases g0
    cases g1
    cases g2
    simp only [DataW.weights,Tryz.underlying154] at hwy
    refine ⟨⟨k0,k1,k2⟩,rfl,short_lit (H:=H) (fun m hm => hwy m (DataW.weights_mem_each (j:=0) rfl rfl m ?_)),short_lit (H:=H) (fun m hm => hwy m (DataW.weights_mem_each (j:=2) rfl rfl m ?_)),w1⟩
    ·rw [e0];exact hm
    ·rw [e2];exact hm)
 exact ⟨l,h1,h2⟩
def CpOk (c:Cp):Prop:=c.tag.size ≤ 281474976710656 ∧ NsOk c.ids ∧ NsOk c.classes ∧ ∀ a ∈ c.attrs,a.name.size ≤ 281474976710656 ∧ a.text.size ≤ 281474976710656 ∧ (Lit.int .i64 a.op).wf = true
end Go.Proofs.YtnemagmakgiheaaGreat.Wg
namespace Go.Proofs.YtnemagmakgiheaaGreat
open Go.Proofs.YtnemagmakgiheaaGreat.Tre
open Go Go.RowKit Go.ChangeShapes Go.WideShapes Go.ChangeAt Sl Wg
end Go.Proofs.YtnemagmakgiheaaGreat

/- Selectors read less deep; what they weigh then; how deep lists stand, in plain words. -/
set_option maxRecDepth 100000
namespace Go.Proofs.YtnemagmakgiheaaGreat.Wg
open Go.Proofs.YtnemagmakgiheaaGreat.Tre
open Go Go.RowKit Sl
def cutL:Nat → List Sel → List Sel
 | 0,_ => []
 | d + 1,l => l.map (fun s => s.map (fun p => (p.1,Cp.mk p.2.tag p.2.ids p.2.classes p.2.attrs (p.2.pss.map (fun q => Ps.mk q.kind q.a q.b (cutL d q.list))))))
def cutP (d:Nat) (q:Ps):Ps:=.mk q.kind q.a q.b (cutL d q.list)
def cutC (d:Nat) (c:Cp):Cp:=.mk c.tag c.ids c.classes c.attrs (c.pss.map (cutP d))
def cutS (d:Nat) (s:Sel):Sel:=s.map (fun p => (p.1,cutC d p.2))
theorem cutL_succ (d:Nat) (l:List Sel):cutL (d + 1) l = l.map (cutS d):=rfl
theorem RowT.map {α β:Type} {sz:Nat} {T:List Value → α → Prop} {T':List Value → β → Prop} {n:Nat} {W:World} {v:Value} {l:List α} (h:RowT sz T n W v l) (f:α → β) (hT:∀ c x,T c x → T' c (f x)):RowT sz T' n W v (l.map f):=by
 rcases h with ⟨rfl,h⟩ | ⟨b,off,cap,rfl,h1,h2,h3,h4⟩
 ·exact .inl ⟨rfl,h⟩
 ·refine .inr ⟨b,off,cap,by rw [List.length_map],by rw [List.length_map];exact h1,h2,h3,fun j x hx => ?_⟩
  rw [List.getElem?_map] at hx
  obtain ⟨y,hy,rfl⟩:=Option.map_eq_some_iff.1 hx
  obtain ⟨c,hc,ht,hcell⟩:=h4 j y hy
  exact ⟨c,hc,hT _ _ ht,hcell⟩
theorem parts_cut {d n:Nat} {W:World} (ih:∀ v l,SelsR (d + 1) n W v l → SelsR d n W v (cutL d l)) {v:Value} {s:Sel} (h:PartsR (d + 1) n W v s):PartsR d n W v (cutS d s):=by
 refine RowT.map h _ (fun c p hp => ?_)
 obtain ⟨c',rfl,i,k,a,ps,rfl,g1,g2,g3,g4⟩:=hp
 exact ⟨_,rfl,i,k,a,ps,rfl,g1,g2,g3,RowT.map g4 (cutP d) (fun c q ⟨x,e,hx⟩ => ⟨x,e,ih x _ hx⟩)⟩
theorem sels_cut:∀ (d:Nat) {n:Nat} {W:World} (v:Value) (l:List Sel),SelsR (d + 1) n W v l → SelsR d n W v (cutL d l)
 | 0,_,_,_,_,h => by
  obtain ⟨p,c,e⟩:=RowT.len h
  exact ⟨rfl,_,_,_,e⟩
 | d + 1,_,_,_,_,h => RowT.map h (cutS d) (fun c s ⟨x,e,hx⟩ => ⟨x,e,parts_cut (fun v l h => sels_cut d v l h) hx⟩)
theorem PartsR.cut {d n:Nat} {W:World} {v:Value} {s:Sel} (h:PartsR (d + 1) n W v s):PartsR d n W v (cutS d s):=parts_cut (fun v l h => sels_cut d v l h) h
/-! ### weights -/
theorem sums_cut {d:Nat} (G:List Sel → Sm) (hG:∀ l,G (cutL d l) = G l) (s:Sel):sumsV G (cutS d s) = sumsV G s:=by
 unfold sumsV cutS
 rw [List.foldl_map]
 congr 1
 funext o p
 show compS G o (cutC d p.2) = compS G o p.2
 unfold compS cutC
 simp only [Cp.pss]
 rw [List.foldl_map]
 have h1:(fun o q => withV o (psV G (cutP d q))) = (fun o q => withV o (psV G q)):=by
  funext o q
  have:psV G (cutP d q) = psV G q:=by
   show (if q.kind = 7 ∨ q.kind = 8 then G (cutL d q.list) else ⟨0,1,0⟩) = if q.kind = 7 ∨ q.kind = 8 then G q.list else ⟨0,1,0⟩
   rw [hG]
  rw [this]
 rw [h1]
 rfl
theorem great_cut:∀ (d:Nat) (l:List Sel),greatV d (cutL d l) = greatV d l
 | 0,_ => rfl
 | d + 1,l => by
  rw [cutL_succ]
  show (l.map (cutS d)).foldl _ _ = l.foldl _ _
  rw [List.foldl_map]
  congr 1
  funext o s
  rw [sums_cut (greatV d) (great_cut d)]
theorem sums8_cut (s:Sel):sumsV (greatV 8) (cutS 8 s) = sumsV (greatV 8) s:=sums_cut _ (great_cut 8) s
/-! ### how deep -/
def isList (p:Ps):Bool:=decide (p.kind = 7) || decide (p.kind = 8)
def deepS:Nat → Sel → Bool
 | 0,s => decide (50 < s.length) || s.any (fun p => p.2.pss.any isList)
 | f + 1,s => decide (50 < s.length) || s.any (fun p => p.2.pss.any (fun q => isList q && q.list.any (deepS f)))
def deepC (f:Nat) (c:Cp):Bool:=match f with
 | 0 => c.pss.any isList
 | f + 1 => c.pss.any (fun q => isList q && q.list.any (deepS f))
theorem deepS_eq (f:Nat) (s:Sel):deepS f s = (decide (50 < s.length) || s.any (fun p => deepC f p.2)):=by
 cases f <;> rfl
theorem deepC_cut:∀ (f:Nat) (c:Cp),deepC f (cutC f c) = deepC f c
 | 0,c => by
  show (c.pss.map (cutP 0)).any isList = c.pss.any isList
  rw [List.any_map];rfl
 | f + 1,c => by
  show (c.pss.map (cutP (f + 1))).any (fun q => isList q && q.list.any (deepS f)) = c.pss.any (fun q => isList q && q.list.any (deepS f))
  rw [List.any_map]
  congr 1
  funext q
  show (isList (cutP (f + 1) q) && (cutL (f + 1) q.list).any (deepS f)) = _
  have h1:isList (cutP (f + 1) q) = isList q:=rfl
  rw [h1,cutL_succ,List.any_map]
  congr 2
  funext s
  show deepS f (cutS f s) = deepS f s
  rw [deepS_eq,deepS_eq]
  unfold cutS
  rw [List.length_map,List.any_map]
  congr 2
  funext p
  exact deepC_cut f p.2
theorem deepS_cut (f:Nat) (s:Sel):deepS f (cutS f s) = deepS f s:=by
 rw [deepS_eq,deepS_eq]
 unfold cutS
 rw [List.length_map,List.any_map]
 congr 2
 funext p
 exact deepC_cut f p.2
end Go.Proofs.YtnemagmakgiheaaGreat.Wg
/- The document's own Deep and DeepSel (tapestrierref9), at every selector. -/
namespace Go.Proofs.YtnemagmakgiheaaGreat.Wg
open Go.Proofs.YtnemagmakgiheaaGreat.Tre
open Go Go.RowKit Sl
def DeepSOK (f:Nat):Prop:=∀ (v:Value) (s:Sel) (w:World),PartsR f w.heap.size w v s → Calls Tryz.prog 16 #[.agg #[v],.int .i64 (8 - (f:Int))] w fun e w' => e = .returned (.bool (deepS f s)) ∧ Below w.heap.size w w'
def DeepCOK (f:Nat):Prop:=∀ (c:Cp) (vi vk va vp:Value) (w:World),CpC (SelsR f w.heap.size w) w.heap.size w [.string c.tag,vi,vk,va,vp] c → Calls Tryz.prog 47 #[.agg #[.string c.tag,vi,vk,va,vp],.int .i64 (8 - (f:Int))] w fun e w' => e = .returned (.bool (deepC f c)) ∧ Below w.heap.size w w'
theorem any_snoc {α:Type} (g:α → Bool) {l:List α} {k:Nat} {x:α} (h:l[k]? = some x):(l.take (k + 1)).any g = ((l.take k).any g || g x):=by
 obtain ⟨hk,rfl⟩:=List.getElem?_eq_some_iff.1 h
 rw [List.take_succ_eq_append_getElem hk,List.any_append]
 simp
theorem any_yes {α:Type} (g:α → Bool) {l:List α} {k:Nat} {x:α} (h:l[k]? = some x) (hx:g x = true):l.any g = true:=List.any_eq_true.2 ⟨x,List.mem_of_getElem? h,hx⟩
set_option maxHeartbeats 1000000 in
theorem deepSel_of (f:Nat) (H:DeepCOK f):DeepSOK f:=by
 intro v s w hv
 obtain ⟨q,cap,rfl⟩:=RowT.len hv
 obtain ⟨V,hV⟩:∃ V,deepS f s = V:=⟨_,rfl⟩
 rw [hV]
 rw [deepS_eq] at hV
 obtain ⟨w1,hw1⟩:∃ w1,w.alloc (.cells #[.slice q s.length cap] 36) = w1:=⟨_,rfl⟩
 have b1:Below w.heap.size w w1:=by rw [← hw1];exact (Below.refl _ _).alloc (Nat.le_refl _) _
 have k1:Blk w1 w.heap.size 36 [.slice q s.length cap]:=by rw [← hw1];exact Blk.new w 36 _
 have c0:=(blk1 k1).1
 have HK:Hid (Blk w1 w.heap.size 36 [.slice q s.length cap]):=k1
 have HV:Hid (PartsR f w.heap.size w (.slice q s.length cap) s):=hv
 have HVV:Hid ((decide (50 < s.length) || s.any (fun p => deepC f p.2)) = V):=hV
 have HH:Hid (DeepCOK f):=H
 obtain ⟨D,hD⟩:∃ D:Int,8 - (f:Int) = D:=⟨_,rfl⟩
 have HD:Hid (8 - (f:Int) = D):=hD
 rw [hD]
 clear hv k1 hV H hD
 by_cases h50:(50:Int) < (s.length:Int)
 ·obtain rfl:true = V:=by rw [← HVV.out,decide_eq_true (show 50 < s.length by omega)];rfl
  go_enter Tryz.func16,Tryz.ntmps16
  go_wp2
  go_ret
  exact ⟨rfl,b1⟩
 ·go_enter Tryz.func16,Tryz.ntmps16
  go_wp2
  clear c0 hw1
  go_loopw [5] (fun x wr => ∃ k:Nat,x = .int .i64 k ∧ k ≤ s.length ∧ Hid ((s.take k).any (fun p => deepC f p.2) = false) ∧ Below w1.heap.size w1 wr) (fun x _ => s.length - (intOf x).toNat)
  case atStart => exact ⟨0,rfl,Nat.zero_le _,rfl,Below.refl _ _⟩
  case round =>
   obtain ⟨k,rfl,hk,HA,hb⟩:=hrel
   have c0:=(blk1 (HK.out.below hb HK.out.lt)).1
   have hbw:=below_next b1 hb
   by_cases hlt:k < s.length
   ·have hki:(k:Int) < (s.length:Int):=by omega
    obtain ⟨p,hp⟩:∃ p,s[k]? = some p:=⟨_,List.getElem?_eq_getElem hlt⟩
    obtain ⟨b,off,vi,vk,va,vp,hq,hbn,hc1,hc2,⟨x0,x1,x2,x3,x4,x5⟩,r1,r2,r3,r4⟩:=PartsR.get (PartsR.below HV.out hbw) hp
    subst hq
    unfold maxLen at hc2
    have hs:=hbw.size
    have hcall:=HH.out p.2 vi vk va vp wr ⟨vi,vk,va,vp,rfl,r1.mono hs (fun _ _ h => h),r2.mono hs (fun _ _ h => h),r3.mono hs (fun _ _ h => h),r4.mono hs (fun _ _ ⟨x,e,hx⟩ => ⟨x,e,hx.mono f hs⟩)⟩
    obtain ⟨q1,cp1,rfl⟩:=r1.len
    obtain ⟨q2,cp2,rfl⟩:=r2.len
    obtain ⟨q3,cp3,rfl⟩:=r3.len
    obtain ⟨q4,cp4,rfl⟩:=r4.len
    have hk1:(k:Int) + 1 ≤ 9223372036854775807:=by omega
    have HP:Hid (s[k]? = some p):=hp
    rw [HD.out] at hcall
    clear r1 r2 r3 r4 hp
    go_wp2_with fail
    refine hcall.mono ?_
    clear hcall x0 x1 x2 x3 x4 x5 c0
    rintro e w2 ⟨rfl,b2⟩
    have hB2:=below_next hb b2
    have hF:=below_next b1 hB2
    cases ht:deepC f p.2 with
    | true =>
     obtain rfl:true = V:=by
      rw [← HVV.out,any_yes (fun p:Pt => deepC f p.2) HP.out ht,Bool.or_true]
     clear ht
     go_wp2
     go_ret
     exact ⟨rfl,hF⟩
    | false =>
     have HA1:Hid ((s.take (k + 1)).any (fun p => deepC f p.2) = false):=by
      show _ = _
      rw [any_snoc _ HP.out,HA.out,ht];rfl
     clear ht HA
     go_wp2
     go_roundw
     case rel => exact ⟨k + 1,by go_num,by omega,HA1,hB2⟩
     case measure => simp [intOf];omega
   ·have hki:¬ (k:Int) < (s.length:Int):=by omega
    obtain rfl:false = V:=by
     have:=HA.out
     rw [List.take_of_length_le (by omega)] at this
     rw [← HVV.out,this,decide_eq_false (show ¬ 50 < s.length by omega)];rfl
    go_wp2
    go_ret
    exact ⟨rfl,hbw⟩
theorem isList_eq (p:Ps):isList p = (decide (p.kind = 7) || decide (p.kind = 8)):=rfl
def deepP (f:Nat) (q:Ps):Bool:=isList q && match f with
 | 0 => true
 | f + 1 => q.list.any (deepS f)
theorem deepC_any (f:Nat) (c:Cp):deepC f c = c.pss.any (deepP f):=by
 cases f with
 | zero =>
  show c.pss.any isList = _
  congr 1
  funext q
  unfold deepP
  rw [Bool.and_true]
 | succ f => rfl
set_option maxHeartbeats 1000000 in
theorem deep_of (f:Nat) (hf:f ≤ 8) (H:∀ g,f = g + 1 → DeepSOK g):DeepCOK f:=by
 intro c vi vk va vp w hv
 obtain ⟨i',k',a',p',e,r1,r2,r3,r4⟩:=hv
 simp only [List.cons.injEq,and_true,true_and] at e
 obtain ⟨rfl,rfl,rfl,rfl⟩:=e
 obtain ⟨q1,cp1,rfl⟩:=r1.len
 obtain ⟨q2,cp2,rfl⟩:=r2.len
 obtain ⟨q3,cp3,rfl⟩:=r3.len
 obtain ⟨q4,cp4,rfl⟩:=r4.len
 have h4s:=r4.short
 unfold maxLen at h4s
 obtain ⟨V,hV⟩:∃ V,deepC f c = V:=⟨_,rfl⟩
 rw [hV]
 rw [deepC_any] at hV
 obtain ⟨w1,hw1⟩:∃ w1,w.alloc (.cells #[.string c.tag,.slice q1 c.ids.length cp1,.slice q2 c.classes.length cp2,.slice q3 c.attrs.length cp3,.slice q4 c.pss.length cp4] 45) = w1:=⟨_,rfl⟩
 have b1:Below w.heap.size w w1:=by rw [← hw1];exact (Below.refl _ _).alloc (Nat.le_refl _) _
 have k1:Blk w1 w.heap.size 45 [.string c.tag,.slice q1 c.ids.length cp1,.slice q2 c.classes.length cp2,.slice q3 c.attrs.length cp3,.slice q4 c.pss.length cp4]:=by rw [← hw1];exact Blk.new w 45 _
 have HK:Hid (Blk w1 w.heap.size 45 [.string c.tag,.slice q1 c.ids.length cp1,.slice q2 c.classes.length cp2,.slice q3 c.attrs.length cp3,.slice q4 c.pss.length cp4]):=k1
 have HV:Hid (RowT 4 (PsC (SelsR f w.heap.size w)) w.heap.size w (.slice q4 c.pss.length cp4) c.pss):=r4
 have HVV:Hid (c.pss.any (deepP f) = V):=hV
 have HH:Hid (∀ g,f = g + 1 → DeepSOK g):=H
 obtain ⟨D,hD⟩:∃ D:Int,8 - (f:Int) = D:=⟨_,rfl⟩
 rw [hD]
 have HD:Hid (8 - (f:Int) = D):=hD
 clear r1 r2 r3 r4 k1 hV H hD
 obtain ⟨N,hN⟩:∃ N,c.pss.length = N:=⟨_,rfl⟩
 have HN:Hid (c.pss.length = N):=hN
 rw [hN] at hw1 h4s HK HV ⊢
 clear hN
 go_enter Tryz.func47,Tryz.ntmps47
 go_wp2
 clear hw1
 go_loopw [5] (fun x wr => ∃ k:Nat,x = .int .i64 k ∧ k ≤ N ∧ Hid ((c.pss.take k).any (deepP f) = false) ∧ Below w1.heap.size w1 wr) (fun x _ => N - (intOf x).toNat)
 case atStart => exact ⟨0,rfl,Nat.zero_le _,rfl,Below.refl _ _⟩
 case round =>
  obtain ⟨k,rfl,hk,HA,hb⟩:=hrel
  obtain ⟨⟨c0,c1,c2,c3,c4⟩,_⟩:=blk5 (HK.out.below hb HK.out.lt)
  have hbw:=below_next b1 hb
  by_cases hlt:k < N
  ·have hki:(k:Int) < (N:Int):=by omega
   obtain ⟨u,hu⟩:∃ u,c.pss[k]? = some u:=⟨_,List.getElem?_eq_getElem (by rw [HN.out];exact hlt)⟩
   have HU:Hid (c.pss[k]? = some u):=hu
   obtain ⟨b5,off5,y,hq5,hbn5,he1,he2,hQ,⟨u0,u1,u2,u3⟩⟩:=pss_get HV.out hu
   subst hq5
   unfold maxLen at he2
   rw [HN.out] at he1
   have v0:=(hbw.cell (p:=⟨b5,off5 + k * 4,none⟩) hbn5).trans u0
   have v1:=(hbw.cell (p:=⟨b5,off5 + k * 4 + 1,none⟩) hbn5).trans u1
   have v2:=(hbw.cell (p:=⟨b5,off5 + k * 4 + 2,none⟩) hbn5).trans u2
   have v3:=(hbw.cell (p:=⟨b5,off5 + k * 4 + 3,none⟩) hbn5).trans u3
   obtain ⟨qy,my,cy,rfl⟩:=hQ.form
   have HQ:Hid (SelsR f w.heap.size w (.slice qy my cy) u.list):=hQ
   obtain ⟨w3,hw3⟩:∃ w3,wr.alloc (.cells #[.int .i64 u.kind,.int .i64 u.a,.int .i64 u.b,.slice qy my cy] 40) = w3:=⟨_,rfl⟩
   have b3:Below wr.heap.size wr w3:=by rw [← hw3];exact (Below.refl _ _).alloc (Nat.le_refl _) _
   have k3:Blk w3 wr.heap.size 40 [.int .i64 u.kind,.int .i64 u.a,.int .i64 u.b,.slice qy my cy]:=by rw [← hw3];exact Blk.new wr 40 _
   have K3:Hid (Blk w3 wr.heap.size 40 [.int .i64 u.kind,.int .i64 u.a,.int .i64 u.b,.slice qy my cy]):=k3
   obtain ⟨⟨p0,p1,p2,p3⟩,_⟩:=blk4 k3
   have B3:=below_next hbw b3
   have hb3:=below_next hb b3
   have hk1:(k:Int) + 1 ≤ 9223372036854775807:=by omega
   have HA1:Hid (deepP f u = false → (c.pss.take (k + 1)).any (deepP f) = false):=fun h => by rw [any_snoc _ HU.out,HA.out,h];rfl
   clear hu hQ u0 u1 u2 u3 k3
   go_upto_region 5 with fail
   first | rw [hw3] | skip
   clear v0 v1 v2 v3 c0 c1 c2 c3 c4 hw3
   have fin:Hid (isList u = false → deepP f u = false):=fun h => by unfold deepP;rw [h];rfl
   go_cut [28] (fun x wx => ∃ t:Bool,x = .bool t ∧ wx = w3 ∧ Hid (t = !isList u))
   case first =>
    by_cases h7:u.kind = 7
    ·have h7':(u.kind == 7) = true:=by rw [h7];rfl
     have h7n:(u.kind != 7) = false:=by rw [h7];rfl
     have HL:Hid (false = !isList u):=by show _ = _;rw [isList_eq,h7];rfl
     clear h7
     go_wp2
     go_meet
     exact ⟨false,rfl,rfl,HL⟩
    ·have h7n:(u.kind != 7) = true:=by simpa [bne] using h7
     by_cases h8:u.kind = 8
     ·have h8n:(u.kind != 8) = false:=by rw [h8];rfl
      have HL:Hid (false = !isList u):=by show _ = _;rw [isList_eq,h8];rfl
      clear h7 h8
      go_wp2
      go_meet
      exact ⟨false,rfl,rfl,HL⟩
     ·have h8n:(u.kind != 8) = true:=by simpa [bne] using h8
      have HL:Hid (true = !isList u):=by show _ = _;rw [isList_eq,decide_eq_false h7,decide_eq_false h8];rfl
      clear h7 h8
      go_wp2
      go_meet
      exact ⟨true,rfl,rfl,HL⟩
   case rest =>
   obtain ⟨t,rfl,rfl,HL⟩:=hcut
   clear p0 p1 p2 p3
   cases t with
   | true =>
    have hil:isList u = false:=by have:=HL.out;cases h:isList u <;> rw [h] at this <;> first | rfl | cases this
    have HA2:Hid ((c.pss.take (k + 1)).any (deepP f) = false):=HA1.out (fin.out hil)
    clear hil HL fin HA1 HA
    go_wp2
    go_roundw
    case rel => exact ⟨k + 1,by go_num,by omega,HA2,hb3⟩
    case measure => simp [intOf];omega
   | false =>
    have hil:isList u = true:=by have:=HL.out;cases h:isList u <;> rw [h] at this <;> first | rfl | cases this
    have HIL:Hid (isList u = true):=hil
    clear HL hil fin
    cases f with
    | zero =>
     have hD8:(8:Int) ≤ D:=by have:=HD.out;omega
     obtain rfl:true = V:=by
      rw [← HVV.out]
      exact (any_yes (deepP 0) HU.out (by unfold deepP;rw [HIL.out];rfl)).symm
     go_wp2
     go_ret
     exact ⟨rfl,B3⟩
    | succ g =>
     have hD8:¬ ((8:Int) ≤ D):=by have:=HD.out;omega
     have hD1:IntKind.i64.wrap (D + 1) = 8 - (g:Int):=by rw [IntKind.wrap_i64];have:=HD.out;omega
     have hqn:∃ cyy,(Value.slice qy my cy) = .slice qy u.list.length cyy:=by
      obtain ⟨p,cc,e⟩:=RowT.len (show SelsR (g + 1) _ _ _ _ from HQ.out)
      cases e
      exact ⟨_,rfl⟩
     obtain ⟨cyy,ey⟩:=hqn
     cases ey
     have hDP:Hid (∀ t2:Bool,u.list.any (deepS g) = t2 → deepP (g + 1) u = t2):=fun t2 h => by unfold deepP;rw [HIL.out];exact h
     obtain ⟨NL,hNL⟩:∃ NL,u.list.length = NL:=⟨_,rfl⟩
     have HNL:Hid (u.list.length = NL):=hNL
     rw [hNL] at K3 HQ
     clear hNL
     obtain ⟨wi,hwi⟩:∃ wi,wi = wr:=⟨_,rfl⟩
     subst hwi
     go_wp2
     go_loopw [7] (fun x wr => ∃ m:Nat,x = .int .i64 m ∧ m ≤ NL ∧ Hid ((u.list.take m).any (deepS g) = false) ∧ Below wc.heap.size wc wr) (fun x _ => NL - (intOf x).toNat)
     case atStart => exact ⟨0,rfl,Nat.zero_le _,rfl,Below.refl _ _⟩
     case round =>
      obtain ⟨m,rfl,hm,HM,hb4⟩:=hrel
      obtain ⟨⟨p0,p1,p2,p3⟩,_⟩:=blk4 (K3.out.below hb4 K3.out.lt)
      have hB4:=below_next B3 hb4
      by_cases hml:m < NL
      ·have hmi:(m:Int) < (NL:Int):=by omega
       obtain ⟨z,hz⟩:∃ z,u.list[m]? = some z:=⟨_,List.getElem?_eq_getElem (by rw [HNL.out];exact hml)⟩
       obtain ⟨bz,offz,pv,hqz,hbnz,hd1,hd2,hpv,z0⟩:=SelsR.get HQ.out hz
       subst hqz
       unfold maxLen at hd2
       rw [HNL.out] at hd1
       have z1:=(hB4.cell (p:=⟨bz,offz + m,none⟩) hbnz).trans z0
       have hcall:=HH.out g rfl pv z wr ((PartsR.below hpv hB4).mono hB4.size)
       obtain ⟨qp,cp,rfl⟩:=RowT.len hpv
       have HZ:Hid (u.list[m]? = some z):=hz
       have hm1:(m:Int) + 1 ≤ 9223372036854775807:=by omega
       clear hz hpv z0
       go_wp2_with fail
       refine hcall.mono ?_
       clear hcall z1 p0 p1 p2 p3
       rintro e w5 ⟨rfl,b5⟩
       have hB5:=below_next hb4 b5
       have hF:=below_next B3 hB5
       cases ht:deepS g z with
       | true =>
        obtain rfl:true = V:=by
         rw [← HVV.out]
         exact (any_yes (deepP (g + 1)) HU.out (hDP.out true (any_yes (deepS g) HZ.out ht))).symm
        clear ht
        go_wp2
        go_ret
        exact ⟨rfl,hF⟩
       | false =>
        have HM1:Hid ((u.list.take (m + 1)).any (deepS g) = false):=by
         show _ = _
         rw [any_snoc _ HZ.out,HM.out,ht];rfl
        clear ht HM
        go_wp2
        go_roundw
        case rel => exact ⟨m + 1,by go_num,by omega,HM1,hB5⟩
        case measure => simp [intOf];omega
      ·have hmi:¬ (m:Int) < (NL:Int):=by omega
       have HA2:Hid ((c.pss.take (k + 1)).any (deepP (g + 1)) = false):=by
        refine HA1.out (hDP.out false ?_)
        have:=HM.out
        rwa [List.take_of_length_le (by rw [HNL.out];omega)] at this
       have hB5:=below_next hb3 hb4
       clear HM HA1 HA
       go_wp2
       go_roundw
       case rel => exact ⟨k + 1,by go_num,by omega,HA2,hB5⟩
       case measure => simp [intOf];omega
  ·have hki:¬ (k:Int) < (N:Int):=by omega
   obtain rfl:false = V:=by
    have:=HA.out
    rw [List.take_of_length_le (by rw [HN.out];omega)] at this
    rw [← HVV.out,this]
   go_wp2
   go_ret
   exact ⟨rfl,hbw⟩
theorem deepC_all:∀ f,f ≤ 8 → DeepCOK f
 | 0,h => deep_of 0 h (fun g e => by cases e)
 | f + 1,h => deep_of (f + 1) h (fun g e => by cases e;exact deepSel_of f (deepC_all f (by omega)))
theorem deepSel_any (f:Nat) (hf:f ≤ 8):DeepSOK f:=deepSel_of f (deepC_all f hf)
end Go.Proofs.YtnemagmakgiheaaGreat.Wg
/- Selectors that came in as arguments of the second form: all texts of them are in bounds, to every depth. -/
namespace Go.Proofs.YtnemagmakgiheaaGreat.Wg
open Go.Proofs.YtnemagmakgiheaaGreat.Tre
open Go Go.RowKit Go.ChangeShapes Go.WideShapes Go.ChangeAt Sl
/-! ### the bound of the second form -/
theorem bulk_len {H:Type}:∀ l:List (DataW H),l.length ≤ Rows.uptoBulkAll l
 | [] => Nat.zero_le _
 | d :: r => by
  have h1:1 ≤ Rows.uptoBulk d:=by cases d with
   | lit l => cases l <;> simp [Rows.uptoBulk]
   | nil => simp [Rows.uptoBulk]
   | ptr d => simp [Rows.uptoBulk]
   | slice elems spare => simp [Rows.uptoBulk]
   | agg parts => simp [Rows.uptoBulk]
   | iface t d => simp [Rows.uptoBulk]
   | map entries => simp [Rows.uptoBulk]
   | held h => simp [Rows.uptoBulk]
  have:=bulk_len r
  simp only [Rows.uptoBulkAll,List.length_cons];omega
theorem bulk_part {H:Type} {d:DataW H} {l:List (DataW H)} (h:d ∈ l):Rows.uptoBulk d ≤ Rows.uptoBulkAll l:=by
 induction l with
 | nil => cases h
 | cons x r ih =>
  simp only [Rows.uptoBulkAll]
  cases List.mem_cons.1 h with
  | inl e => subst e;omega
  | inr e => have:=ih e;omega
theorem size_lit {H:Type} {R:Nat} {s:ByteArray} (h:Rows.uptoBulk (DataW.lit (.string s.data.toList):DataW H) ≤ R):s.size ≤ R:=by
 simp only [Rows.uptoBulk,Array.length_toList] at h
 show s.data.size ≤ R
 omega
theorem row_inR {R:Nat} {H:Type} {enc:TypeId × Value → H} {W:World} {base fuel:Nat} {v:Value} {x:DataW H × List MemPlace} {t e:TypeId} {α:Type} [Inhabited α] (sz:Nat) (hz:0 < sz) (T:List Value → α → Prop) (Ok:α → Prop)
  (ht:Tryz.prog.underlying t = some (.slice e)) (hcells:Tryz.prog.cellsOf e = sz) (h:DataW.trod enc Tryz.prog W base (fun _ => true) true fuel t [v] = some x) (hw:Rows.uptoBulk x.1 ≤ R)
  (each:∀ n cs y,DataW.trod enc Tryz.prog W base (fun _ => true) true n e cs = some y → Rows.uptoBulk y.1 ≤ R → cs.length = sz → ∃ a:α,T cs a ∧ Ok a) :
  ∃ l:List α,RowT sz T W.heap.size W v l ∧ (∀ a ∈ l,Ok a) ∧ l.length ≤ R:=by
 rcases Deep.open_slice ht h with ⟨hcs,_⟩ | ⟨x,len,cap,m,n,D,Pl,hcs,_,hl,hm,hmm,rfl,hel⟩
 ·cases hcs
  exact ⟨[],.inl ⟨rfl,_,_,rfl⟩,fun _ h => (by cases h),by simp⟩
 ·cases hcs
  simp only [if_true] at hmm
  subst hmm
  rw [hcells] at hel
  simp only [Rows.uptoBulk] at hw
  have hD:∀ i,i < len → Rows.uptoBulk (D i) ≤ R:=fun i hi => by
   have:=bulk_part (l:=(List.range len).map D) (List.mem_map.2 ⟨i,List.mem_range.2 hi,rfl⟩)
   omega
  have one:∀ i,i < len → ∃ a:α × List Value,Ok a.1 ∧ T a.2 a.1 ∧ a.2.length = sz ∧ ∀ j u,a.2[j]? = some u → W.cell? ((x.add (i * sz)).add j) = some u:=fun i hi => by
   obtain ⟨cs',hcs,htr⟩:=hel i (by omega)
   obtain ⟨_,hcl,hcc⟩:=World.cells?_some hcs
   obtain ⟨a,ha,hg⟩:=each n cs' _ htr (hD i hi) hcl
   refine ⟨(a,cs'),hg,ha,hcl,fun j u hj => ?_⟩
   have hjl:j < sz:=by rw [← hcl];exact (List.getElem?_eq_some_iff.1 hj).1
   rw [hcc j hjl,hj]
  obtain ⟨F,hF⟩:=Deep.choose_lt one
  have hbytes:len ≤ R:=by
   have:=bulk_len ((List.range len).map D)
   rw [List.length_map,List.length_range] at this
   omega
  refine ⟨(List.range len).map (fun i => (F i).1),?_,fun a ha => ?_,by simpa using hbytes⟩
  ·by_cases h0:len = 0
   ·subst h0
    exact .inl ⟨rfl,_,_,rfl⟩
   ·obtain ⟨b,off,spot⟩:=x
    obtain ⟨_,_,hf0,hF0⟩:=hF 0 (by omega)
    have hex:∃ u,(F 0).2[0]? = some u:=⟨_,List.getElem?_eq_getElem (by rw [hf0];exact hz)⟩
    obtain ⟨u0,hu0⟩:=hex
    have hc0:=hF0 0 u0 hu0
    have hspot:spot = none:=by simpa [Addr.add] using World.cell?_spot hc0
    subst hspot
    have key:∀ i j,(((⟨b,off,none⟩:Addr).add (i * sz)).add j) = ⟨b,off + i * sz + j,none⟩:=fun i j => by rw [addr_add',addr_add']
    refine .inr ⟨b,off,_,by simp,by simpa using hl,hm,World.block_lt_of_cell? W ⟨b,off,none⟩ (by rw [key] at hc0;simpa using hc0),fun j a hj => ?_⟩
    rw [List.getElem?_map] at hj
    obtain ⟨k,hk,rfl⟩:=Option.map_eq_some_iff.1 hj
    obtain ⟨h1,h2⟩:=List.getElem?_eq_some_iff.1 hk
    simp at h1 h2
    subst h2
    obtain ⟨_,g2,g3,g4⟩:=hF j (by omega)
    refine ⟨(F j).2,g3,g2,fun i u hu => ?_⟩
    have:=g4 i u hu
    rwa [key] at this
  ·obtain ⟨i,hi,rfl⟩:=List.mem_map.1 ha
   exact (hF i (List.mem_range.1 hi)).1
theorem names_inR {R:Nat} {H:Type} {enc:TypeId × Value → H} {W:World} {base fuel:Nat} {v:Value} {x:DataW H × List MemPlace} (h:DataW.trod enc Tryz.prog W base (fun _ => true) true fuel 42 [v] = some x) (hw:Rows.uptoBulk x.1 ≤ R) :
  ∃ l:List ByteArray,RowT 1 StrC W.heap.size W v l ∧ ∀ s ∈ l,s.size ≤ R:=by
 have:Inhabited ByteArray:=⟨⟨#[]⟩⟩
 obtain ⟨l,h1,h2,_⟩:=row_inR (R:=R) 1 (by decide) StrC (fun s => s.size ≤ R) Tryz.underlying42 cells_str h hw (fun n cs y hy hwy hl => by
  obtain ⟨s,rfl,hys,_⟩:=DataW.trod_string Tryz.underlying9 hy
  rw [hys] at hwy
  exact ⟨s,rfl,size_lit hwy⟩)
 exact ⟨l,h1,h2⟩
theorem attrs_inR {R:Nat} {H:Type} {enc:TypeId × Value → H} {W:World} {base fuel:Nat} {v:Value} {x:DataW H × List MemPlace} (h:DataW.trod enc Tryz.prog W base (fun _ => true) true fuel 43 [v] = some x) (hw:Rows.uptoBulk x.1 ≤ R) :
  ∃ l:List At,RowT 3 AtC W.heap.size W v l ∧ ∀ a ∈ l,a.name.size ≤ R ∧ a.text.size ≤ R ∧ (Lit.int .i64 a.op).wf = true:=by
 have:Inhabited At:=⟨⟨⟨#[]⟩,0,⟨#[]⟩⟩⟩
 obtain ⟨l,h1,h2,_⟩:=row_inR (R:=R) 3 (by decide) AtC (fun a:At => a.name.size ≤ R ∧ a.text.size ≤ R ∧ (Lit.int .i64 a.op).wf = true) Tryz.underlying43 cells_attr h hw (fun n cs y hy hwy hl => by
  obtain ⟨xs,n',_,rfl,_,hxl,hf⟩:=DataW.trod_struct Tryz.underlying154 hy
  match cs,hl with
  | [c0,c1,c2],_ =>
   match xs,hxl with
   | [y0,y1,y2],_ =>
    have f0:=hf 0 _ rfl
    have f1:=hf 1 _ rfl
    have f2:=hf 2 _ rfl
    simp only [List.getElem?_cons_zero,List.getElem?_cons_succ] at f0 f1 f2
    obtain ⟨k0,g0,e0,_⟩:=DataW.trod_string Tryz.underlying9 f0
    obtain ⟨k1,g1,e1,w1⟩:=DataW.trod_int Tryz.underlying3 f1
    obtain ⟨k2,g2,e2,_⟩:=DataW.trod_string Tryz.underlying9 f2
    cases g0
    cases g1
    cases g2
    simp only [Rows.uptoBulk,Rows.uptoBulkAll,List.map_cons,List.map_nil] at hwy
    have z0:Rows.uptoBulk y0.1 ≤ R:=by omega
    have z2:Rows.uptoBulk y2.1 ≤ R:=by omega
    rw [e0] at z0
    rw [e2] at z2
    exact ⟨⟨k0,k1,k2⟩,rfl,size_lit z0,size_lit z2,w1⟩)
 exact ⟨l,h1,h2⟩
def CpR (R:Nat) (c:Cp):Prop:=c.tag.size ≤ R ∧ (∀ x ∈ c.ids,x.size ≤ R) ∧ (∀ x ∈ c.classes,x.size ≤ R) ∧ (∀ a ∈ c.attrs,a.name.size ≤ R ∧ a.text.size ≤ R ∧ (Lit.int .i64 a.op).wf = true) ∧ ∀ q ∈ c.pss,(Lit.int .i64 q.a).wf = true ∧ (Lit.int .i64 q.b).wf = true
def OkD (R:Nat):Nat → Sel → Prop
 | 0,s => ∀ p ∈ s,CpR R p.2
 | d + 1,s => ∀ p ∈ s,CpR R p.2 ∧ ∀ q ∈ p.2.pss,∀ s' ∈ q.list,OkD R d s'
def OkC (R:Nat) (d:Nat) (c:Cp):Prop:=CpR R c ∧ match d with
 | 0 => True
 | d + 1 => ∀ q ∈ c.pss,∀ s' ∈ q.list,OkD R d s'
theorem OkD_of {R d:Nat} {s:Sel} (h:∀ p ∈ s,OkC R d p.2):OkD R d s:=by
 cases d with
 | zero => exact fun p hp => (h p hp).1
 | succ d => exact h
def SelsInR (R d:Nat):Prop:=∀ {H:Type} {enc:TypeId × Value → H} {W:World} {base fuel:Nat} {v:Value} {x:DataW H × List MemPlace},DataW.trod enc Tryz.prog W base (fun _ => true) true fuel 28 [v] = some x → Rows.uptoBulk x.1 ≤ R →
  ∃ l:List Sel,SelsR d W.heap.size W v l ∧ ∀ s ∈ l,OkD R (d - 1) s
theorem comp_inR {R:Nat} (d:Nat) (HS:SelsInR R d) {H:Type} {enc:TypeId × Value → H} {W:World} {base n:Nat} {cs:List Value} {y:DataW H × List MemPlace} (hy:DataW.trod enc Tryz.prog W base (fun _ => true) true n 45 cs = some y) (hwy:Rows.uptoBulk y.1 ≤ R) :
  ∃ c:Cp,CpC (SelsR d W.heap.size W) W.heap.size W cs c ∧ OkC R d c:=by
 have:Inhabited Ps:=⟨.mk 0 0 0 []⟩
 obtain ⟨xs,n',_,rfl,hl,hxl,hf⟩:=DataW.trod_struct Tryz.underlying45 hy
 rw [cells_comp] at hl
 match cs,hl with
 | [c0,c1,c2,c3,c4],_ =>
  match xs,hxl with
  | [y0,y1,y2,y3,y4],_ =>
   have f0:=hf 0 _ rfl
   have f1:=hf 1 _ rfl
   have f2:=hf 2 _ rfl
   have f3:=hf 3 _ rfl
   have f4:=hf 4 _ rfl
   simp only [List.getElem?_cons_zero,List.getElem?_cons_succ] at f0 f1 f2 f3 f4
   obtain ⟨k0,g0,e0,_⟩:=DataW.trod_string Tryz.underlying9 f0
   simp only [Rows.uptoBulk,Rows.uptoBulkAll,List.map_cons,List.map_nil] at hwy
   have f1':DataW.trod enc Tryz.prog W base (fun _ => true) true n' 42 [c1] = some y1:=f1
   have f2':DataW.trod enc Tryz.prog W base (fun _ => true) true n' 42 [c2] = some y2:=f2
   have f3':DataW.trod enc Tryz.prog W base (fun _ => true) true n' 43 [c3] = some y3:=f3
   have f4':DataW.trod enc Tryz.prog W base (fun _ => true) true n' 41 [c4] = some y4:=f4
   obtain ⟨l1,a1,b1⟩:=names_inR (R:=R) f1' (by omega)
   obtain ⟨l2,a2,b2⟩:=names_inR (R:=R) f2' (by omega)
   obtain ⟨l3,a3,b3⟩:=attrs_inR (R:=R) f3' (by omega)
   obtain ⟨l4,a4,b4,_⟩:=row_inR (R:=R) 4 (by decide) (PsC (SelsR d W.heap.size W)) (fun q:Ps => ((Lit.int .i64 q.a).wf = true ∧ (Lit.int .i64 q.b).wf = true) ∧ ∀ s' ∈ q.list,OkD R (d - 1) s') Tryz.underlying41 cells_ps f4' (by omega) (fun n cs y hy hwy hl => by
    obtain ⟨xs,n',_,rfl,_,hxl,hf⟩:=DataW.trod_struct Tryz.underlying40 hy
    match cs,hl with
    | [p0,p1,p2,p3],_ =>
     match xs,hxl with
     | [z0,z1,z2,z3],_ =>
      have f0:=hf 0 _ rfl
      have f1:=hf 1 _ rfl
      have f2:=hf 2 _ rfl
      have f3:=hf 3 _ rfl
      simp only [List.getElem?_cons_zero,List.getElem?_cons_succ] at f0 f1 f2 f3
      obtain ⟨k0,g0,_,_⟩:=DataW.trod_int Tryz.underlying3 f0
      obtain ⟨k1,g1,_,w1⟩:=DataW.trod_int Tryz.underlying3 f1
      obtain ⟨k2,g2,_,w2⟩:=DataW.trod_int Tryz.underlying3 f2
      have f3':DataW.trod enc Tryz.prog W base (fun _ => true) true n' 28 [p3] = some z3:=f3
      simp only [Rows.uptoBulk,Rows.uptoBulkAll,List.map_cons,List.map_nil] at hwy
      obtain ⟨ls,h1,h2⟩:=HS f3' (by omega)
      cases g0
      cases g1
      cases g2
      exact ⟨.mk k0 k1 k2 ls,⟨p3,rfl,h1⟩,⟨w1,w2⟩,h2⟩)
   have z0:Rows.uptoBulk y0.1 ≤ R:=by omega
   rw [e0] at z0
   cases g0
   refine ⟨.mk k0 l1 l2 l3 l4,⟨c1,c2,c3,c4,rfl,a1,a2,a3,a4⟩,⟨size_lit z0,b1,b2,b3,fun q hq => (b4 q hq).1⟩,?_⟩
   ·cases d with
    | zero => trivial
    | succ d => exact fun q hq s' hs' => (b4 q hq).2 s' hs'
theorem sels_inR (R:Nat) (d:Nat):SelsInR R d:=by
 induction d with
 | zero =>
  intro H enc W base fuel v x h hw
  rcases Deep.open_slice Tryz.underlying28 h with ⟨hcs,_⟩ | ⟨x,len,cap,m,n,D,Pl,hcs,_⟩
  ·cases hcs
   exact ⟨[],⟨rfl,_,_,_,rfl⟩,fun _ h => by cases h⟩
  ·cases hcs
   exact ⟨[],⟨rfl,_,_,_,rfl⟩,fun _ h => by cases h⟩
 | succ d ih =>
  intro H enc W base fuel v x h hw
  have:Inhabited Sel:=⟨[]⟩
  have:Inhabited Pt:=⟨(0,.mk ⟨#[]⟩ [] [] [] [])⟩
  obtain ⟨l,h1,h2,_⟩:=row_inR (R:=R) 1 (by decide) (fun c s => ∃ x,c = [x] ∧ PtsR (SelsR d W.heap.size W) W.heap.size W x s) (OkD R d) Tryz.underlying28 cells_sel h hw (fun n cs y hy hwy hl => by
   obtain ⟨xs,n',_,rfl,_,hxl,hf⟩:=DataW.trod_struct Tryz.underlying36 hy
   match cs,hl with
   | [c0],_ =>
    match xs,hxl with
    | [y0],_ =>
     have f0:=hf 0 _ rfl
     simp only [List.getElem?_cons_zero] at f0
     have f0':DataW.trod enc Tryz.prog W base (fun _ => true) true n' 34 [c0] = some y0:=f0
     simp only [Rows.uptoBulk,Rows.uptoBulkAll,List.map_cons,List.map_nil] at hwy
     obtain ⟨ps,g1,g2,_⟩:=row_inR (R:=R) 6 (by decide) (PtC (SelsR d W.heap.size W) W.heap.size W) (fun p:Pt => OkC R d p.2) Tryz.underlying34 cells_part f0' (by omega) (fun n cs y hy hwy hl => by
      obtain ⟨xs,n',_,rfl,_,hxl,hf⟩:=DataW.trod_struct Tryz.underlying48 hy
      match cs,hl with
      | [c0,c1,c2,c3,c4,c5],_ =>
       match xs,hxl with
       | [y0,y1],_ =>
        have f0:=hf 0 _ rfl
        have f1:=hf 1 _ rfl
        simp only [List.getElem?_cons_zero,List.getElem?_cons_succ] at f0 f1
        obtain ⟨k0,g0,_,_⟩:=DataW.trod_int Tryz.underlying3 f0
        have f1':DataW.trod enc Tryz.prog W base (fun _ => true) true n' 45 [c1,c2,c3,c4,c5] = some y1:=f1
        simp only [Rows.uptoBulk,Rows.uptoBulkAll,List.map_cons,List.map_nil] at hwy
        obtain ⟨c,h1,h2⟩:=comp_inR (R:=R) d ih f1' (by omega)
        cases g0
        exact ⟨(k0,c),⟨_,rfl,h1⟩,h2⟩)
     exact ⟨ps,⟨c0,rfl,g1⟩,OkD_of g2⟩)
  exact ⟨l,h1,h2⟩
/-! ### cut less deep -/
theorem CpR_cut {R d:Nat} {c:Cp} (h:CpR R c):CpR R (cutC d c):=by
 obtain ⟨h1,h2,h3,h4,h5⟩:=h
 refine ⟨h1,h2,h3,h4,fun q hq => ?_⟩
 obtain ⟨q',hq',rfl⟩:=List.mem_map.1 hq
 exact h5 q' hq'
theorem OkD_cut {R:Nat}:∀ (d:Nat) {s:Sel},OkD R (d + 1) s → OkD R d (cutS d s)
 | 0,s,h => fun p hp => by
  obtain ⟨p',hp',rfl⟩:=List.mem_map.1 hp
  exact CpR_cut (h p' hp').1
 | d + 1,s,h => fun p hp => by
  obtain ⟨p',hp',rfl⟩:=List.mem_map.1 hp
  refine ⟨CpR_cut (h p' hp').1,fun q hq s' hs' => ?_⟩
  obtain ⟨q',hq',rfl⟩:=List.mem_map.1 hq
  have hs2:s' ∈ q'.list.map (cutS d):=hs'
  obtain ⟨s'',hs'',rfl⟩:=List.mem_map.1 hs2
  exact OkD_cut d ((h p' hp').2 q' hq' s'' hs'')
end Go.Proofs.YtnemagmakgiheaaGreat.Wg
namespace Go.Proofs.YtnemagmakgiheaaGreat
open Go.Proofs.YtnemagmakgiheaaGreat.Tre
open Go Go.RowKit Go.ChangeShapes Go.WideShapes Go.ChangeAt Sl Wg
theorem selsUp_of_reads {H:Type} {enc:TypeId × Value → H} {W:World} {a:Option Addr} {len cap:Nat} {d:DataW H} {p:List MemPlace} {ds:List (DataW H)}
  (h:DataW.Trod enc Tryz.prog W 0 (fun _ => true) true 28 (.slice a len cap) d p) (hk:Rows.uptoSmall H ds = true) (hd:d ∈ ds) :
  ∃ l:List Sel,SelsR 11 W.heap.size W (.slice a len cap) l ∧ ∀ s ∈ l,OkD 1048576 10 s:=by
 obtain ⟨fuel,hf⟩:=h
 have h2:Rows.uptoBulkAll ds ≤ 1048576:=of_decide_eq_true hk
 obtain ⟨l,h1,h2⟩:=sels_inR 1048576 11 (x:=(d,p)) hf (Nat.le_trans (bulk_part hd) h2)
 exact ⟨l,h1,h2⟩
end Go.Proofs.YtnemagmakgiheaaGreat
