/- What the reader of selectors makes of tokens in bounds is in bounds, at every depth: plain facts. -/
import Derived.Test.YtnemagmakgiheaaGreatSlTok
import Derived.Test.YtnemagmakgiheaaGreatMtArgs
import Derived.WalkArith
namespace Go.Proofs.YtnemagmakgiheaaGreat.Pb
open Go Go.RowKit Sl Wg Go.Proofs.YtnemagmakgiheaaGreat.Tre
def K (r:List Bt):Prop:=Sl.Good r ∧ r.length ≤ 1000
theorem K.suf {r r':List Bt} (h:K r) (hs:r' <:+ r):K r':=⟨fun t ht => h.1 t (hs.subset ht),Nat.le_trans hs.length_le h.2⟩
theorem drop_suf (r:List Bt):dropW r <:+ r:=List.dropWhile_suffix _
theorem tail_suf {t:Bt} {r l:List Bt} (h:t :: r <:+ l):r <:+ l:=(List.suffix_cons t r).trans h
theorem K.head {t:Bt} {r:List Bt} (h:K (t :: r)):t.text.size ≤ 1000000 ∧ -9223372036854775808 ≤ t.n ∧ t.n ≤ 9223372036854775807:=h.1 t (List.mem_cons_self ..)
theorem wf_of {x:Int} (h:-9223372036854775808 ≤ x ∧ x ≤ 9223372036854775807):wfI x:=WalkArith.wf_i64 h
theorem lowS_sz (s:ByteArray):(lowS s).size = s.size:=by
 show (Lw.low s.data.toList).toArray.size = s.data.size
 simp [Lw.low]
def CpS (c:Cp):Prop:=c.tag.size ≤ 1000000 ∧ (∀ x ∈ c.ids,x.size ≤ 1000000) ∧ (∀ x ∈ c.classes,x.size ≤ 1000000) ∧ ∀ a ∈ c.attrs,a.name.size ≤ 1000000 ∧ a.text.size ≤ 1000000 ∧ (Lit.int .i64 a.op).wf = true
def VD:Nat → List Sel → Prop
 | 0,_ => True
 | d + 1,l => l.length ≤ 2000 ∧ ∀ s ∈ l,∀ p ∈ s,wfI p.1 ∧ CpS p.2 ∧ ∀ q ∈ p.2.pss,(wfI q.kind ∧ wfI q.a ∧ wfI q.b) ∧ VD d q.list
def CV (d:Nat) (c:Cp):Prop:=CpS c ∧ ∀ q ∈ c.pss,(wfI q.kind ∧ wfI q.a ∧ wfI q.b) ∧ VD d q.list
def SV (d:Nat) (s:Sel):Prop:=∀ p ∈ s,wfI p.1 ∧ CV d p.2
theorem vd_wd:∀ (d:Nat) (l:List Sel),VD d l → WD d l
 | 0,_,_ => by unfold WD;trivial
 | d + 1,l,h => by
  unfold VD at h
  unfold WD
  refine ⟨by omega,fun s hs p hp => ?_⟩
  obtain ⟨h1,⟨c1,c2,c3,c4⟩,h3⟩:=h.2 s hs p hp
  exact ⟨h1,⟨by omega,fun x hx => by have:=c2 x hx;omega,fun x hx => by have:=c3 x hx;omega,fun a ha => by
   obtain ⟨a1,a2,a3⟩:=c4 a ha
   exact ⟨by omega,by omega,a3⟩⟩,fun q hq => ⟨(h3 q hq).1,vd_wd d _ (h3 q hq).2⟩⟩
theorem wd_nil (d:Nat):VD d []:=by
 cases d with
 | zero => unfold VD;trivial
 | succ d => unfold VD;exact ⟨Nat.zero_le _,fun s h => by cases h⟩
theorem wf0:wfI 0:=wf_of (by decide)
theorem wf6:wfI 6:=wf_of (by decide)
theorem wf1:wfI 1:=wf_of (by decide)
theorem wf2:wfI 2:=wf_of (by decide)
theorem wf3:wfI 3:=wf_of (by decide)
theorem wf4:wfI 4:=wf_of (by decide)
def AtW (a:At):Prop:=a.name.size ≤ 1000000 ∧ a.text.size ≤ 1000000 ∧ (Lit.int .i64 a.op).wf = true
theorem opV_good {l:List Bt} {o:Int × List Bt} (h:opV l = some o):o.2 <:+ l ∧ 0 ≤ o.1 ∧ o.1 ≤ 6:=by
 cases l with
 | nil => simp [opV] at h
 | cons t r =>
  simp only [opV] at h
  split at h
  ·rename_i op hop
   have hb:0 ≤ op ∧ op ≤ 6:=by
    unfold opOf at hop
    split at hop
    ·cases hop;decide
    ·split at hop
     ·cases hop;decide
     ·split at hop
      ·cases hop;decide
      ·split at hop
       ·cases hop;decide
       ·split at hop
        ·cases hop;decide
        ·cases hop
   split at h
   ·split at h
    ·cases h
     exact ⟨tail_suf (List.suffix_cons _ _),hb⟩
    ·cases h
   ·cases h
  ·split at h
   ·cases h
    exact ⟨List.suffix_cons _ _,show (0:Int) ≤ 1 by decide,show (1:Int) ≤ 6 by decide⟩
   ·cases h
theorem attrV_good {r:List Bt} (hK:K r) {x:At × List Bt} (h:attrV r = some x):x.2 <:+ r ∧ AtW x.1:=by
 have s0:=drop_suf r
 unfold attrV at h
 split at h
 ·cases h
 ·rename_i nm r1 e0
  rw [e0] at s0
  have k0:=(hK.suf s0).head
  have s1:=(drop_suf r1).trans (tail_suf s0)
  split at h
  ·split at h
   ·cases h
   ·rename_i t r3 e1
    rw [e1] at s1
    split at h
    ·cases h
     exact ⟨tail_suf s1,by show (lowS nm.text).size ≤ _;rw [lowS_sz];omega,Nat.zero_le _,show (Lit.int .i64 0).wf = true by decide⟩
    ·obtain ⟨o,ho,h⟩:=Option.bind_eq_some_iff.1 h
     obtain ⟨s2,o1,o2⟩:=opV_good ho
     have s3:=(drop_suf o.2).trans (s2.trans s1)
     split at h
     ·cases h
     ·rename_i hh r5 e2
      rw [e2] at s3
      have k3:=(hK.suf s3).head
      have s4:=(drop_suf r5).trans (tail_suf s3)
      split at h
      ·split at h
       ·rename_i e r6 e3
        rw [e3] at s4
        split at h
        ·cases h
         exact ⟨tail_suf s4,by show (lowS nm.text).size ≤ _;rw [lowS_sz];omega,by show hh.text.size ≤ _;omega,wf_of ⟨by show _ ≤ o.1;omega,by show o.1 ≤ _;omega⟩⟩
        ·cases h
       ·cases h
      ·cases h
  ·cases h
theorem abV_good {t:Bt} (ht:-9223372036854775808 ≤ t.n ∧ t.n ≤ 9223372036854775807) {x:Int × Int} (h:abV t = some x):wfI x.1 ∧ wfI x.2:=by
 unfold abV at h
 split at h
 ·cases h;exact ⟨wf_of (by decide),wf_of (by decide)⟩
 ·split at h
  ·cases h;exact ⟨wf_of (by decide),wf_of (by decide)⟩
  ·split at h
   ·cases h
    refine ⟨wf_of (show -9223372036854775808 ≤ (0:Int) ∧ (0:Int) ≤ 9223372036854775807 by decide),wf_of ?_⟩
    have h1:=Int.natAbs_tdiv t.n 1000
    have h2:t.n.natAbs.div 1000 ≤ t.n.natAbs:=Nat.div_le_self ..
    have h3:(Int.natAbs 1000) = 1000:=rfl
    rw [h3] at h1
    show -9223372036854775808 ≤ t.n.tdiv 1000 ∧ t.n.tdiv 1000 ≤ 9223372036854775807
    have h4:t.n.natAbs.div 1000 = t.n.natAbs / 1000:=rfl
    generalize t.n.tdiv 1000 = y at *
    rw [h4] at h1
    omega
   ·cases h
theorem nthV_good {r:List Bt} (hK:K r) {x:Int × Int × List Bt} (h:nthV r = some x):x.2.2 <:+ r ∧ wfI x.1 ∧ wfI x.2.1:=by
 have s0:=drop_suf r
 unfold nthV at h
 split at h
 ·cases h
 ·rename_i t r1 e0
  rw [e0] at s0
  have k0:=(hK.suf s0).head
  have s1:=(drop_suf r1).trans (tail_suf s0)
  obtain ⟨o,ho,h⟩:=Option.bind_eq_some_iff.1 h
  have h2:=abV_good k0.2 ho
  split at h
  ·rename_i e r2 e1
   rw [e1] at s1
   split at h
   ·cases h;exact ⟨tail_suf s1,h2⟩
   ·cases h
  ·cases h
def GoodL (d:Nat) (L:Inner):Prop:=∀ r x,K r → L r = some x → x.2 <:+ r ∧ VD d x.1
def PsW (d:Nat) (q:Ps):Prop:=(wfI q.kind ∧ wfI q.a ∧ wfI q.b) ∧ VD d q.list
theorem plainV_good {w:List UInt8} {k:Int} (h:plainV w = some k):wfI k:=by
 unfold plainV at h
 split at h
 ·cases h;exact wf_of (by decide)
 ·split at h
  ·cases h;exact wf_of (by decide)
  ·split at h
   ·cases h;exact wf_of (by decide)
   ·split at h
    ·cases h;exact wf_of (by decide)
    ·split at h
     ·cases h;exact wf_of (by decide)
     ·cases h
theorem listedV_good {d:Nat} {L:Inner} (hL:GoodL d L) {k:Int} (hk:wfI k) {r:List Bt} (hK:K r) {x:Ps × List Bt} (h:listedV L k r = some x):x.2 <:+ r ∧ PsW d x.1:=by
 unfold listedV at h
 obtain ⟨y,hy,h⟩:=Option.bind_eq_some_iff.1 h
 obtain ⟨s0,w0⟩:=hL _ _ hK hy
 split at h
 ·rename_i e r2 e1
  rw [e1] at s0
  split at h
  ·cases h
   exact ⟨tail_suf s0,⟨hk,wf0,wf0⟩,w0⟩
  ·cases h
 ·cases h
theorem pseudoV_good {d:Nat} {L:Inner} (hL:GoodL d L) {r:List Bt} (hK:K r) {x:Ps × List Bt} (h:pseudoV L r = some x):x.2 <:+ r ∧ PsW d x.1:=by
 cases r with
 | nil => simp [pseudoV] at h
 | cons t r =>
  simp only [pseudoV] at h
  have s0:r <:+ t :: r:=List.suffix_cons _ _
  split at h
  ·obtain ⟨k,hk,rfl⟩:=Option.map_eq_some_iff.1 h
   exact ⟨s0,⟨plainV_good hk,wf0,wf0⟩,wd_nil d⟩
  ·split at h
   ·split at h
    ·obtain ⟨k,hk,rfl⟩:=Option.map_eq_some_iff.1 h
     obtain ⟨s1,w1,w2⟩:=nthV_good (hK.suf s0) hk
     exact ⟨s1.trans s0,⟨wf6,w1,w2⟩,wd_nil d⟩
    ·split at h
     ·obtain ⟨s1,w1⟩:=listedV_good hL (wf_of (by decide)) (hK.suf s0) h
      exact ⟨s1.trans s0,w1⟩
     ·split at h
      ·obtain ⟨s1,w1⟩:=listedV_good hL (wf_of (by decide)) (hK.suf s0) h
       exact ⟨s1.trans s0,w1⟩
      ·cases h
   ·cases h
theorem cw_id {d:Nat} {c:Cp} (h:CV d c) {x:ByteArray} (hx:x.size ≤ 1000000):CV d (c.addId x):=by
 obtain ⟨t,i,k,a,p⟩:=c
 obtain ⟨⟨h1,h2,h3,h4⟩,h5⟩:=h
 refine ⟨⟨h1,fun s hs => ?_,h3,h4⟩,h5⟩
 rcases List.mem_append.1 (show s ∈ i ++ [x] from hs) with h | h
 ·exact h2 s h
 ·rw [List.mem_singleton.1 h];omega
theorem cw_class {d:Nat} {c:Cp} (h:CV d c) {x:ByteArray} (hx:x.size ≤ 1000000):CV d (c.addClass x):=by
 obtain ⟨t,i,k,a,p⟩:=c
 obtain ⟨⟨h1,h2,h3,h4⟩,h5⟩:=h
 refine ⟨⟨h1,h2,fun s hs => ?_,h4⟩,h5⟩
 rcases List.mem_append.1 (show s ∈ k ++ [x] from hs) with h | h
 ·exact h3 s h
 ·rw [List.mem_singleton.1 h];omega
theorem cw_attr {d:Nat} {c:Cp} (h:CV d c) {x:At} (hx:AtW x):CV d (c.addAttr x):=by
 obtain ⟨t,i,k,a,p⟩:=c
 obtain ⟨⟨h1,h2,h3,h4⟩,h5⟩:=h
 refine ⟨⟨h1,h2,h3,fun s hs => ?_⟩,h5⟩
 rcases List.mem_append.1 (show s ∈ a ++ [x] from hs) with h | h
 ·exact h4 s h
 ·rw [List.mem_singleton.1 h];exact hx
theorem cw_ps {d:Nat} {c:Cp} (h:CV d c) {x:Ps} (hx:PsW d x):CV d (c.addPs x):=by
 obtain ⟨t,i,k,a,p⟩:=c
 obtain ⟨h1,h5⟩:=h
 refine ⟨h1,fun s hs => ?_⟩
 rcases List.mem_append.1 (show s ∈ p ++ [x] from hs) with h | h
 ·exact h5 s h
 ·rw [List.mem_singleton.1 h];exact hx
theorem unitV_good {d:Nat} {L:Inner} (hL:GoodL d L) {c:Cp} (hc:CV d c) {t:Bt} {r:List Bt} (hK:K (t :: r)) {x:Cp × List Bt} (h:unitV L c t r = some x):x.2 <:+ t :: r ∧ CV d x.1:=by
 have s0:r <:+ t :: r:=List.suffix_cons _ _
 unfold unitV at h
 split at h
 ·cases h;exact ⟨s0,cw_id hc hK.head.1⟩
 ·split at h
  ·obtain ⟨k,hk,rfl⟩:=Option.map_eq_some_iff.1 h
   obtain ⟨s1,w1⟩:=attrV_good (hK.suf s0) hk
   exact ⟨s1.trans s0,cw_attr hc w1⟩
  ·split at h
   ·obtain ⟨k,hk,rfl⟩:=Option.map_eq_some_iff.1 h
    obtain ⟨s1,w1⟩:=pseudoV_good hL (hK.suf s0) hk
    exact ⟨s1.trans s0,cw_ps hc w1⟩
   ·split at h
    ·split at h
     ·cases h
      exact ⟨tail_suf s0,cw_class hc (hK.suf s0).head.1⟩
     ·cases h
    ·cases h
theorem unitsV_good {d:Nat} {L:Inner} (hL:GoodL d L):∀ (f:Nat) (c:Cp) (r:List Bt) (x:Cp × List Bt),CV d c → K r → unitsV L f c r = some x → x.2 <:+ r ∧ CV d x.1
 | 0,_,_,_,_,_,h => by simp [unitsV] at h
 | _ + 1,c,[],x,hc,_,h => by simp [unitsV] at h;subst h;exact ⟨List.suffix_refl _,hc⟩
 | f + 1,c,t :: r,x,hc,hK,h => by
  simp only [unitsV] at h
  split at h
  ·obtain ⟨y,hy,h⟩:=Option.bind_eq_some_iff.1 h
   obtain ⟨s1,w1⟩:=unitV_good hL hc hK hy
   obtain ⟨s2,w2⟩:=unitsV_good hL f y.1 y.2 x w1 (hK.suf s1) h
   exact ⟨s2.trans s1,w2⟩
  ·cases h;exact ⟨List.suffix_refl _,hc⟩
theorem tagV_good {r:List Bt} (hK:K r):(tagV r).2 <:+ r ∧ (tagV r).1.size ≤ 1000000:=by
 cases r with
 | nil => exact ⟨List.suffix_refl _,Nat.zero_le _⟩
 | cons t r =>
  simp only [tagV]
  by_cases h1:isSg t 42 = true
  ·rw [if_pos h1]
   exact ⟨List.suffix_cons _ _,Nat.zero_le _⟩
  ·rw [if_neg h1]
   by_cases h2:t.kind = 1
   ·rw [if_pos h2]
    exact ⟨List.suffix_cons _ _,by show (lowS t.text).size ≤ _;rw [lowS_sz];exact hK.head.1⟩
   ·rw [if_neg h2]
    exact ⟨List.suffix_refl _,Nat.zero_le _⟩
theorem compV_good {d:Nat} {L:Inner} (hL:GoodL d L) {r:List Bt} (hK:K r) {x:Cp × List Bt} (h:compV L r = some x):x.2 <:+ r ∧ CV d x.1:=by
 obtain ⟨s0,z0⟩:=tagV_good hK
 unfold compV at h
 obtain ⟨y,hy,h⟩:=Option.bind_eq_some_iff.1 h
 have hc0:CV d (.mk (tagV r).1 [] [] [] []):=⟨⟨by show (tagV r).1.size ≤ _;omega,fun _ h => (by cases h),fun _ h => (by cases h),fun _ h => (by cases h)⟩,fun _ h => (by cases h)⟩
 obtain ⟨s1,w1⟩:=unitsV_good hL _ _ _ _ hc0 (hK.suf s0) hy
 split at h
 ·cases h;exact ⟨s1.trans s0,w1⟩
 ·cases h
theorem betwV_good {r:List Bt} {x:Int × List Bt} (h:betwV r = some x):x.2 <:+ r ∧ wfI x.1:=by
 have s0:=drop_suf r
 unfold betwV at h
 split at h
 ·cases h
 ·rename_i t r1 e
  rw [e] at s0
  split at h
  ·rename_i c hc
   cases h
   refine ⟨(drop_suf r1).trans (tail_suf s0),?_⟩
   unfold combO at hc
   split at hc
   ·cases hc;exact wf2
   ·split at hc
    ·cases hc;exact wf3
    ·split at hc
     ·cases hc;exact wf4
     ·cases hc
  ·split at h
   ·cases h;exact ⟨s0,wf1⟩
   ·cases h
theorem partsV_good {d:Nat} {L:Inner} (hL:GoodL d L):∀ (f:Nat) (c:Int) (pre:List Pt) (r:List Bt) (x:List Pt × List Bt),wfI c → SV d pre → K r → partsV L f c pre r = some x → x.2 <:+ r ∧ SV d x.1
 | 0,_,_,_,_,_,_,_,h => by simp [partsV] at h
 | f + 1,c,pre,r,x,hc,hp,hK,h => by
  simp only [partsV] at h
  obtain ⟨y,hy,h⟩:=Option.bind_eq_some_iff.1 h
  obtain ⟨s1,w1⟩:=compV_good hL hK hy
  have hp2:SV d (pre ++ [(c,y.1)]):=fun p hp' => by
   rcases List.mem_append.1 hp' with h | h
   ·exact hp p h
   ·rw [List.mem_singleton.1 h];exact ⟨hc,w1⟩
  split at h
  ·rename_i z hz
   obtain ⟨s2,w2⟩:=betwV_good hz
   obtain ⟨s3,w3⟩:=partsV_good hL f _ _ _ x w2 hp2 (hK.suf (s2.trans s1)) h
   exact ⟨s3.trans (s2.trans s1),w3⟩
  ·cases h
   exact ⟨(drop_suf y.2).trans s1,hp2⟩
theorem selV_good {d:Nat} {L:Inner} (hL:GoodL d L) {r:List Bt} (hK:K r) {x:Sel × List Bt} (h:selV L r = some x):x.2 <:+ r ∧ SV d x.1:=by
 obtain ⟨s1,w1⟩:=partsV_good hL _ _ _ _ _ (wf_of (by decide)) (fun _ h => by cases h) (hK.suf (drop_suf r)) h
 exact ⟨s1.trans (drop_suf r),w1⟩
theorem listF_good {d:Nat} {L:Inner} (hL:GoodL d L):∀ (f:Nat) (pre:List Sel) (r:List Bt) (x:List Sel × List Bt),(∀ s ∈ pre,SV d s) → K r → listF L f pre r = some x → x.2 <:+ r ∧ (∀ s ∈ x.1,SV d s) ∧ x.1.length ≤ pre.length + f
 | 0,_,_,_,_,_,h => by simp [listF] at h
 | f + 1,pre,r,x,hp,hK,h => by
  simp only [listF] at h
  obtain ⟨y,hy,h⟩:=Option.bind_eq_some_iff.1 h
  obtain ⟨s1,w1⟩:=selV_good hL hK hy
  have hp2:∀ s ∈ pre ++ [y.1],SV d s:=fun s hs => by
   rcases List.mem_append.1 hs with h | h
   ·exact hp s h
   ·rw [List.mem_singleton.1 h];exact w1
  split at h
  ·rename_i t r2 e
   rw [e] at s1
   split at h
   ·obtain ⟨s3,w3,l3⟩:=listF_good hL f _ _ x hp2 (hK.suf (tail_suf s1)) h
    refine ⟨s3.trans (tail_suf s1),w3,?_⟩
    rw [List.length_append,List.length_singleton] at l3
    omega
   ·cases h
    refine ⟨s1,hp2,?_⟩
    show (pre ++ [y.1]).length ≤ _
    rw [List.length_append,List.length_singleton]
    omega
  ·rename_i e
   rw [e] at s1
   cases h
   refine ⟨s1,hp2,?_⟩
   show (pre ++ [y.1]).length ≤ _
   rw [List.length_append,List.length_singleton]
   omega
theorem wd_of {d:Nat} {l:List Sel} (h:∀ s ∈ l,SV d s) (hl:l.length ≤ 2000):VD (d + 1) l:=by
 unfold VD
 exact ⟨by omega,fun s hs p hp => ⟨(h s hs p hp).1,(h s hs p hp).2.1,(h s hs p hp).2.2⟩⟩
theorem innerV_good (e:Nat):∀ d,GoodL (e + d) (innerV d)
 | 0 => fun _ _ _ h => by simp [innerV] at h
 | d + 1 => fun r x hK h => by
  have h':listV d r = some x:=h
  rw [listV_eq] at h'
  obtain ⟨s1,w1,l1⟩:=listF_good (innerV_good e d) _ _ _ _ (fun _ h => by cases h) hK h'
  have:=hK.2
  exact ⟨s1,wd_of w1 (by simp at l1;omega)⟩
theorem parseV_good (e:Nat) {ts:List Bt} (h:Sl.Good ts) {l:List Sel} (hp:parseV ts = some l):VD (e + 9) l:=by
 unfold parseV at hp
 split at hp
 ·cases hp
 ·rename_i hlen
  split at hp
  ·rename_i l' e'
   cases hp
   rw [listV_eq] at e'
   have hK:K ts:=⟨h,by omega⟩
   obtain ⟨_,w1,l1⟩:=listF_good (innerV_good e 8) _ _ _ _ (fun _ h => by cases h) hK e'
   have:=hK.2
   exact wd_of w1 (by simp at l1;omega)
  ·cases hp
end Go.Proofs.YtnemagmakgiheaaGreat.Pb
