/- What the elements of a tree tell of each other: plain facts. -/
import Derived.Test.YtopmahiapejkgaaDmGa
namespace Go.Proofs.Ytopmahiapejkgaa.Dm
open Go

theorem parent_of {es : List El} (hO : TreeOk es) {e i c : Nat} {q : El} (hq : es[e]? = some q) (hc : q.ch[i]? = some c) : parentV es (c : Int) = (e : Int) := by
  obtain ⟨r, h1, _, h3, _⟩ := hO.chs e q i c hq hc
  unfold parentV
  rw [elAt_yes h1]
  exact h3
theorem place_of {es : List El} (hO : TreeOk es) {e i c : Nat} {q : El} (hq : es[e]? = some q) (hc : q.ch[i]? = some c) : placeV es (c : Int) = (i : Int) + 1 := by
  obtain ⟨r, h1, _, _, h4⟩ := hO.chs e q i c hq hc
  unfold placeV
  rw [elAt_yes h1]
  show ((r.place : Nat) : Int) = _
  rw [h4]
  omega
theorem children_at {es : List El} {e : Nat} {q : El} (hq : es[e]? = some q) : childrenV es (e : Int) = q.ch := by
  unfold childrenV
  rw [elAt_yes hq]
  rfl
theorem before_at {es : List El} {c : Nat} {r : El} (h : es[c]? = some r) : beforeV es (c : Int) = sibV es c (-1) := by
  have hlt : c < es.length := (List.getElem?_eq_some_iff.1 h).1
  unfold beforeV
  rw [if_pos ⟨by omega, by omega⟩, Int.toNat_natCast]
theorem before_first {es : List El} (hO : TreeOk es) {e c : Nat} {q : El} (hq : es[e]? = some q) (hc : q.ch[0]? = some c) : beforeV es (c : Int) = -1 := by
  obtain ⟨r, h1, _, h3, h4⟩ := hO.chs e q 0 c hq hc
  rw [before_at h1, sibV_at h1, h3, if_neg (by omega), h4, nthI_no (by omega)]
theorem before_later {es : List El} (hO : TreeOk es) {e i c d : Nat} {q : El} (hq : es[e]? = some q) (hc : q.ch[i + 1]? = some c) (hd : q.ch[i]? = some d) : beforeV es (c : Int) = (d : Int) := by
  obtain ⟨r, h1, _, h3, h4⟩ := hO.chs e q (i + 1) c hq hc
  rw [before_at h1, sibV_at h1, h3, if_neg (by omega), h4, children_at hq, show ((i + 1 + 1 : Nat) : Int) - 1 + -1 = (i : Int) by omega, nthI_yes hd]
theorem newF_err : ∀ (l : List Nd) (es : List El) (x : Int), newF es l = .error x → x = 10 ∨ x = 11
  | [], _, _, h => by cases h
  | n :: l, es, x, h => by
    unfold newF at h
    cases ha : addV es n with
    | error y => rw [ha] at h; cases h; exact addV_err ha
    | ok e2 => rw [ha] at h; exact newF_err l e2 x h
theorem newV_err {l : List Nd} {x : Int} (h : newV l = .error x) : x = 3 ∨ x = 10 ∨ x = 11 := by
  unfold newV at h
  split at h
  · cases h; exact .inl rfl
  · exact .inr (newF_err l [] x h)
theorem sumCh_take {es : List El} {k : Nat} {q : El} (h : es[k]? = some q) : sumCh (es.take (k + 1)) = sumCh (es.take k) + q.ch.length := by
  obtain ⟨hk, rfl⟩ := List.getElem?_eq_some_iff.1 h
  rw [List.take_succ_eq_append_getElem hk, sumCh_append]
  simp [sumCh]
theorem sumCh_le {es : List El} (k : Nat) : sumCh (es.take k) ≤ sumCh es := by
  have := sumCh_append (es.take k) (es.drop k)
  rw [List.take_append_drop] at this
  omega

end Go.Proofs.Ytopmahiapejkgaa.Dm

/- The order of all elements of a tree: each one, then its children in order, each with all below it: plain facts. -/
namespace Go.Proofs.Ytopmahiapejkgaa.Dm
open Go

def chOf (es : List El) (e : Nat) : List Nat := childrenV es (e : Int)
def pre (es : List El) : Nat → Nat → List Nat
  | 0, _ => []
  | f + 1, e => e :: (chOf es e).flatMap (pre es f)
def preV (es : List El) (e : Nat) : List Nat := pre es (es.length - e) e
def allV (es : List El) : List Nat := if es.length = 0 then [] else preV es 0
theorem flat_congr {l : List Nat} {f g : Nat → List Nat} (h : ∀ x ∈ l, f x = g x) : l.flatMap f = l.flatMap g := by
  induction l with
  | nil => rfl
  | cons x l ih =>
    rw [List.flatMap_cons, List.flatMap_cons, h x (List.mem_cons_self ..), ih (fun y hy => h y (List.mem_cons_of_mem _ hy))]
theorem ch_mem {es : List El} (hO : TreeOk es) {e c : Nat} (he : e < es.length) (hc : c ∈ chOf es e) : e < c ∧ c < es.length := by
  obtain ⟨q, hq⟩ : ∃ q, es[e]? = some q := ⟨_, List.getElem?_eq_getElem he⟩
  unfold chOf at hc
  rw [children_at hq] at hc
  obtain ⟨i, hi⟩ := List.mem_iff_getElem?.1 hc
  obtain ⟨r, h1, h2, _⟩ := hO.chs e q i c hq hi
  exact ⟨h2, (List.getElem?_eq_some_iff.1 h1).1⟩
theorem pre_more {es : List El} (hO : TreeOk es) : ∀ (f g e : Nat), e < es.length → es.length - e ≤ f → es.length - e ≤ g → pre es f e = pre es g e
  | 0, _, e, he, h, _ => by omega
  | _ + 1, 0, e, he, _, h => by omega
  | f + 1, g + 1, e, he, hf, hg => by
    rw [pre, pre, flat_congr (fun c hc => ?_)]
    have := ch_mem hO he hc
    exact pre_more hO f g c this.2 (by omega) (by omega)
theorem preV_eq {es : List El} (hO : TreeOk es) {e : Nat} (he : e < es.length) : preV es e = e :: (chOf es e).flatMap (preV es) := by
  unfold preV
  obtain ⟨m, hm⟩ : ∃ m, es.length - e = m + 1 := ⟨es.length - e - 1, by omega⟩
  rw [hm, pre, flat_congr (fun c hc => ?_)]
  have := ch_mem hO he hc
  exact pre_more hO m (es.length - c) c this.2 (by omega) (Nat.le_refl _)

/-! ### upward -/
def upsF (es : List El) : Nat → Nat → List Nat
  | 0, _ => []
  | f + 1, e => e :: (if parentV es (e : Int) = -1 then [] else upsF es f (parentV es (e : Int)).toNat)
def ups (es : List El) (e : Nat) : List Nat := upsF es (e + 1) e
theorem par_at {es : List El} {e : Nat} {q : El} (hq : es[e]? = some q) : parentV es (e : Int) = q.nd.parent := by
  unfold parentV
  rw [elAt_yes hq]
  rfl
theorem par_lt {es : List El} (hO : TreeOk es) {e : Nat} (he : e < es.length) (h0 : 0 < e) : ∃ p : Nat, parentV es (e : Int) = (p : Int) ∧ p < e := by
  obtain ⟨q, hq⟩ : ∃ q, es[e]? = some q := ⟨_, List.getElem?_eq_getElem he⟩
  obtain ⟨p, _, h1, h2, _⟩ := hO.par e q hq h0
  exact ⟨p, (par_at hq).trans h1, h2⟩
theorem par_root {es : List El} (hO : TreeOk es) (he : 0 < es.length) : parentV es ((0 : Nat) : Int) = -1 := by
  obtain ⟨q, hq⟩ : ∃ q, es[0]? = some q := ⟨_, List.getElem?_eq_getElem he⟩
  exact (par_at hq).trans (hO.root q hq).1
theorem upsF_more {es : List El} (hO : TreeOk es) : ∀ (f g e : Nat), e < es.length → e + 1 ≤ f → e + 1 ≤ g → upsF es f e = upsF es g e
  | 0, _, e, he, h, _ => by omega
  | _ + 1, 0, e, he, _, h => by omega
  | f + 1, g + 1, e, he, hf, hg => by
    rw [upsF, upsF]
    by_cases h0 : e = 0
    · subst h0
      rw [if_pos (par_root hO he), if_pos (par_root hO he)]
    · obtain ⟨p, hp, hpe⟩ := par_lt hO he (by omega)
      rw [hp, if_neg (by omega), if_neg (by omega), Int.toNat_natCast, upsF_more hO f g p (by omega) (by omega) (by omega)]
theorem ups_root {es : List El} (hO : TreeOk es) (he : 0 < es.length) : ups es 0 = [0] := by
  unfold ups
  rw [upsF, if_pos (par_root hO he)]
theorem ups_eq {es : List El} (hO : TreeOk es) {e p : Nat} (he : e < es.length) (hp : parentV es (e : Int) = (p : Int)) (hpe : p < e) : ups es e = e :: ups es p := by
  unfold ups
  rw [upsF, hp, if_neg (by omega), Int.toNat_natCast, upsF_more hO e (p + 1) p (by omega) (by omega) (Nat.le_refl _)]
theorem ups_mem {es : List El} (hO : TreeOk es) : ∀ (m e : Nat), e ≤ m → e < es.length → ∀ x ∈ ups es e, x < es.length
  | m, e, hm, he, x, hx => by
    by_cases h0 : e = 0
    · subst h0
      rw [ups_root hO he] at hx
      obtain rfl : x = 0 := by simpa using hx
      exact he
    · obtain ⟨p, hp, hpe⟩ := par_lt hO he (by omega)
      rw [ups_eq hO he hp hpe] at hx
      rcases List.mem_cons.1 hx with rfl | hx
      · exact he
      · match m, hm with
        | 0, hm => omega
        | m + 1, hm => exact ups_mem hO m p (by omega) (by omega) x hx
def hasNext (es : List El) (x : Nat) : Bool := sibV es x 1 != -1
def upV (es : List El) (e : Nat) : Int := (((ups es e).find? (hasNext es)).map fun x => sibV es x 1).getD (-1)
theorem ups_head (es : List El) (e : Nat) : ∃ r, ups es e = e :: r := ⟨_, rfl⟩
theorem upV_sib {es : List El} {e : Nat} {d : Int} (h : sibV es e 1 = d) (hd : d ≠ -1) : upV es e = d := by
  obtain ⟨r, hr⟩ := ups_head es e
  unfold upV
  rw [hr, List.find?_cons, show hasNext es e = true by unfold hasNext; rw [h]; simpa using hd]
  exact h
theorem upV_no {es : List El} (hO : TreeOk es) {e p : Nat} (he : e < es.length) (hp : parentV es (e : Int) = (p : Int)) (hpe : p < e) (h : sibV es e 1 = -1) : upV es e = upV es p := by
  unfold upV
  rw [ups_eq hO he hp hpe, List.find?_cons, show hasNext es e = false by unfold hasNext; rw [h]; rfl]
theorem upV_root {es : List El} (hO : TreeOk es) (he : 0 < es.length) : upV es 0 = -1 := by
  obtain ⟨q, hq⟩ : ∃ q, es[0]? = some q := ⟨_, List.getElem?_eq_getElem he⟩
  have hs : sibV es 0 1 = -1 := by rw [sibV_at hq, if_pos (hO.root q hq).1]
  unfold upV
  rw [ups_root hO he, List.find?_cons, show hasNext es 0 = false by unfold hasNext; rw [hs]; rfl]
  rfl

/-! ### who comes next -/
def folV (es : List El) (e : Nat) : Int := match chOf es e with
  | c :: _ => (c : Int)
  | [] => upV es e
def itF (es : List El) : Nat → Int → List Nat
  | 0, _ => []
  | f + 1, x => if x = -1 then [] else x.toNat :: itF es f (folV es x.toNat)
theorem itF_nat (es : List El) (f e : Nat) : itF es (f + 1) (e : Int) = e :: itF es f (folV es e) := by
  rw [itF, if_neg (by omega), Int.toNat_natCast]
theorem itF_end (es : List El) (f : Nat) : itF es f (-1) = [] := by
  cases f with
  | zero => rfl
  | succ f => rw [itF, if_pos rfl]
theorem sib_next {es : List El} (hO : TreeOk es) {e c d : Nat} {q : El} {a r : List Nat} (hq : es[e]? = some q) (h : q.ch = a ++ c :: d :: r) : sibV es c 1 = (d : Int) := by
  obtain ⟨x, h1, _, h3, h4⟩ := hO.chs e q a.length c hq (by rw [h]; simp)
  rw [sibV_at h1, h3, if_neg (by omega), h4, children_at hq, show ((a.length + 1 : Nat) : Int) - 1 + 1 = ((a.length + 1 : Nat) : Int) by omega]
  exact nthI_yes (by rw [h]; simp)
theorem sib_last {es : List El} (hO : TreeOk es) {e c : Nat} {q : El} {a : List Nat} (hq : es[e]? = some q) (h : q.ch = a ++ [c]) : sibV es c 1 = -1 := by
  obtain ⟨x, h1, _, h3, h4⟩ := hO.chs e q a.length c hq (by rw [h]; simp)
  rw [sibV_at h1, h3, if_neg (by omega), h4, children_at hq, show ((a.length + 1 : Nat) : Int) - 1 + 1 = ((a.length + 1 : Nat) : Int) by omega]
  exact nthI_no (by rw [h]; simp)
theorem it_row {es : List El} (hO : TreeOk es) {e : Nat} {q : El} (he : e < es.length) (hq : es[e]? = some q)
    (ih : ∀ c, e < c → c < es.length → ∀ f, itF es ((preV es c).length + f) (c : Int) = preV es c ++ itF es f (upV es c)) (f : Nat) :
    ∀ (r a : List Nat) (c : Nat), q.ch = a ++ c :: r → itF es (((c :: r).flatMap (preV es)).length + f) (c : Int) = (c :: r).flatMap (preV es) ++ itF es f (upV es e)
  | [], a, c, h => by
    have hm := ch_mem hO he (c := c) (by unfold chOf; rw [children_at hq, h]; simp)
    have hp : parentV es (c : Int) = (e : Int) := parent_of hO hq (i := a.length) (by rw [h]; simp)
    have := ih c hm.1 hm.2 f
    rw [upV_no hO hm.2 hp hm.1 (sib_last hO hq h)] at this
    simpa using this
  | d :: r, a, c, h => by
    have hm := ch_mem hO he (c := c) (by unfold chOf; rw [children_at hq, h]; simp)
    have h2 := it_row hO he hq ih f r (a ++ [c]) d (by rw [h]; simp)
    have := ih c hm.1 hm.2 (((d :: r).flatMap (preV es)).length + f)
    rw [upV_sib (sib_next hO hq h) (by omega), h2] at this
    rw [List.flatMap_cons, List.length_append, Nat.add_assoc, this, List.append_assoc]
theorem it_pre {es : List El} (hO : TreeOk es) : ∀ (m e : Nat), es.length - e ≤ m → e < es.length → ∀ f, itF es ((preV es e).length + f) (e : Int) = preV es e ++ itF es f (upV es e)
  | 0, e, hm, he, _ => by omega
  | m + 1, e, hm, he, f => by
    obtain ⟨q, hq⟩ : ∃ q, es[e]? = some q := ⟨_, List.getElem?_eq_getElem he⟩
    have hch : chOf es e = q.ch := children_at hq
    rw [preV_eq hO he, hch, List.length_cons, show (q.ch.flatMap (preV es)).length + 1 + f = ((q.ch.flatMap (preV es)).length + f) + 1 by omega, itF_nat, List.cons_append]
    congr 1
    unfold folV
    rw [hch]
    cases hc : q.ch with
    | nil => simp
    | cons c r => exact it_row hO he hq (fun c h1 h2 f => it_pre hO m c (by omega) h2 f) f r [] c (by rw [hc]; rfl)
theorem all_it {es : List El} (hO : TreeOk es) (he : 0 < es.length) : itF es ((allV es).length + 1) ((0 : Nat) : Int) = allV es := by
  have hA : allV es = preV es 0 := if_neg (by omega)
  rw [hA, it_pre hO _ 0 (Nat.le_refl _) he 1, upV_root hO he, itF_end, List.append_nil]

/-! ### each once -/
theorem pre_mem {es : List El} (hO : TreeOk es) : ∀ (m e : Nat), es.length - e ≤ m → e < es.length → ∀ x ∈ preV es e, x < es.length
  | 0, e, hm, he, _, _ => by omega
  | m + 1, e, hm, he, x, hx => by
    rw [preV_eq hO he] at hx
    rcases List.mem_cons.1 hx with rfl | hx
    · exact he
    · obtain ⟨c, hc, hx⟩ := List.mem_flatMap.1 hx
      have := ch_mem hO he hc
      exact pre_mem hO m c (by omega) this.2 x hx
theorem all_mem {es : List El} (hO : TreeOk es) {x : Nat} (h : x ∈ allV es) : x < es.length := by
  unfold allV at h
  split at h
  · cases h
  · exact pre_mem hO _ 0 (Nat.le_refl _) (by omega) x h
def parN (es : List El) (x : Nat) : Nat := (parentV es (x : Int)).toNat
def ancN (es : List El) : Nat → Nat → Nat
  | 0, x => x
  | k + 1, x => parN es (ancN es k x)
def dep (es : List El) (x : Nat) : Nat := (depthV es (x : Int)).toNat
theorem dep_at {es : List El} {e : Nat} {q : El} (hq : es[e]? = some q) : dep es e = q.depth := by
  unfold dep depthV
  rw [elAt_yes hq]
  simp
theorem dep_ch {es : List El} (hO : TreeOk es) {e c : Nat} (he : e < es.length) (hc : c ∈ chOf es e) : dep es c = dep es e + 1 ∧ parN es c = e := by
  obtain ⟨q, hq⟩ : ∃ q, es[e]? = some q := ⟨_, List.getElem?_eq_getElem he⟩
  have hm := ch_mem hO he hc
  unfold chOf at hc
  rw [children_at hq] at hc
  obtain ⟨i, hi⟩ := List.mem_iff_getElem?.1 hc
  have hp := parent_of hO hq hi
  obtain ⟨r, h1, h2, h3, _⟩ := hO.chs e q i c hq hi
  obtain ⟨p, q', h4, _, h5, h6, _⟩ := hO.par c r h1 (by omega)
  obtain rfl : p = e := by omega
  rw [hq] at h5
  cases h5
  exact ⟨by rw [dep_at h1, dep_at hq, h6], by unfold parN; rw [hp]; simp⟩
theorem pre_anc {es : List El} (hO : TreeOk es) : ∀ (m e : Nat), es.length - e ≤ m → e < es.length → ∀ x ∈ preV es e, dep es e ≤ dep es x ∧ ancN es (dep es x - dep es e) x = e
  | 0, e, hm, he, _, _ => by omega
  | m + 1, e, hm, he, x, hx => by
    rw [preV_eq hO he] at hx
    rcases List.mem_cons.1 hx with rfl | hx
    · exact ⟨Nat.le_refl _, by rw [Nat.sub_self]; rfl⟩
    · obtain ⟨c, hc, hx⟩ := List.mem_flatMap.1 hx
      have hcm := ch_mem hO he hc
      obtain ⟨d1, d2⟩ := dep_ch hO he hc
      obtain ⟨h1, h2⟩ := pre_anc hO m c (by omega) hcm.2 x hx
      refine ⟨by omega, ?_⟩
      rw [show dep es x - dep es e = (dep es x - dep es c) + 1 by omega, ancN, h2, d2]
theorem nodup_flat {f : Nat → List Nat} : ∀ (l : List Nat), l.Nodup → (∀ c ∈ l, (f c).Nodup) → (∀ c ∈ l, ∀ d ∈ l, c ≠ d → ∀ x ∈ f c, x ∉ f d) → (l.flatMap f).Nodup
  | [], _, _, _ => by simp
  | c :: l, h1, h2, h3 => by
    rw [List.flatMap_cons]
    refine List.nodup_append.2 ⟨h2 c (List.mem_cons_self ..), nodup_flat l (List.nodup_cons.1 h1).2 (fun d hd => h2 d (List.mem_cons_of_mem _ hd)) (fun a ha b hb => h3 a (List.mem_cons_of_mem _ ha) b (List.mem_cons_of_mem _ hb)), fun x hx y hy e => ?_⟩
    subst e
    obtain ⟨d, hd, hxd⟩ := List.mem_flatMap.1 hy
    exact h3 c (List.mem_cons_self ..) d (List.mem_cons_of_mem _ hd) (fun e => (List.nodup_cons.1 h1).1 (e ▸ hd)) x hx hxd
theorem pre_nodup {es : List El} (hO : TreeOk es) : ∀ (m e : Nat), es.length - e ≤ m → e < es.length → (preV es e).Nodup
  | 0, e, hm, he => by omega
  | m + 1, e, hm, he => by
    obtain ⟨q, hq⟩ : ∃ q, es[e]? = some q := ⟨_, List.getElem?_eq_getElem he⟩
    have hnd : (chOf es e).Nodup := by
      rw [show chOf es e = q.ch from children_at hq]
      exact (hO.rise e q hq).imp (fun h => by omega)
    rw [preV_eq hO he]
    refine List.nodup_cons.2 ⟨fun h => ?_, nodup_flat _ hnd (fun c hc => ?_) (fun c hc d hd hne x hx hy => ?_)⟩
    · obtain ⟨c, hc, hx⟩ := List.mem_flatMap.1 h
      have hcm := ch_mem hO he hc
      have := (pre_anc hO m c (by omega) hcm.2 e hx).1
      have := (dep_ch hO he hc).1
      omega
    · have hcm := ch_mem hO he hc
      exact pre_nodup hO m c (by omega) hcm.2
    · have hcm := ch_mem hO he hc
      have hdm := ch_mem hO he hd
      have h1 := (pre_anc hO m c (by omega) hcm.2 x hx).2
      have h2 := (pre_anc hO m d (by omega) hdm.2 x hy).2
      rw [(dep_ch hO he hc).1] at h1
      rw [(dep_ch hO he hd).1] at h2
      exact hne (h1.symm.trans h2)
/-- b stands somewhere behind a. -/
def Ahead (L : List Nat) (a b : Nat) : Prop := ∃ s t u, L = s ++ a :: (t ++ b :: u)
theorem Ahead.cons {L : List Nat} {a b : Nat} (x : Nat) (h : Ahead L a b) : Ahead (x :: L) a b := by
  obtain ⟨s, t, u, rfl⟩ := h
  exact ⟨x :: s, t, u, rfl⟩
theorem Ahead.flat {f : Nat → List Nat} {l : List Nat} {c a b : Nat} (hc : c ∈ l) (h : Ahead (f c) a b) : Ahead (l.flatMap f) a b := by
  obtain ⟨s, t, u, hs⟩ := h
  obtain ⟨l1, l2, rfl⟩ := List.append_of_mem hc
  refine ⟨l1.flatMap f ++ s, t, u ++ l2.flatMap f, ?_⟩
  rw [List.flatMap_append, List.flatMap_cons, hs]
  simp
theorem pre_head {es : List El} (hO : TreeOk es) {e : Nat} (he : e < es.length) : ∃ r, preV es e = e :: r := ⟨_, preV_eq hO he⟩
theorem pre_child {es : List El} (hO : TreeOk es) : ∀ (m e : Nat), es.length - e ≤ m → e < es.length → ∀ p ∈ preV es e, ∀ c ∈ chOf es p, Ahead (preV es e) p c
  | 0, e, hm, he, _, _, _, _ => by omega
  | m + 1, e, hm, he, p, hp, c, hc => by
    rw [preV_eq hO he] at hp ⊢
    rcases List.mem_cons.1 hp with rfl | hp
    · have hcm := ch_mem hO he hc
      obtain ⟨r, hr⟩ := pre_head hO hcm.2
      obtain ⟨l1, l2, hl⟩ := List.append_of_mem hc
      refine ⟨[], l1.flatMap (preV es), r ++ l2.flatMap (preV es), ?_⟩
      rw [hl, List.flatMap_append, List.flatMap_cons, hr]
      simp
    · obtain ⟨d, hd, hp⟩ := List.mem_flatMap.1 hp
      have hdm := ch_mem hO he hd
      exact (Ahead.flat hd (pre_child hO m d (by omega) hdm.2 p hp c hc)).cons e
theorem pre_sib {es : List El} (hO : TreeOk es) : ∀ (m e : Nat), es.length - e ≤ m → e < es.length → ∀ p ∈ preV es e, ∀ (a r : List Nat) (c d : Nat), chOf es p = a ++ c :: d :: r → Ahead (preV es e) c d
  | 0, e, hm, he, _, _, _, _, _, _, _ => by omega
  | m + 1, e, hm, he, p, hp, a, r, c, d, h => by
    rw [preV_eq hO he] at hp ⊢
    rcases List.mem_cons.1 hp with rfl | hp
    · have hcm := ch_mem hO he (c := c) (by rw [h]; simp)
      have hdm := ch_mem hO he (c := d) (by rw [h]; simp)
      obtain ⟨r1, h1⟩ := pre_head hO hcm.2
      obtain ⟨r2, h2⟩ := pre_head hO hdm.2
      refine ⟨p :: a.flatMap (preV es), r1, r2 ++ r.flatMap (preV es), ?_⟩
      rw [h, List.flatMap_append, List.flatMap_cons, List.flatMap_cons, h1, h2]
      simp
    · obtain ⟨x, hx, hp⟩ := List.mem_flatMap.1 hp
      have hxm := ch_mem hO he hx
      exact (Ahead.flat hx (pre_sib hO m x (by omega) hxm.2 p hp a r c d h)).cons e
theorem Ahead.mem {L : List Nat} {a b : Nat} (h : Ahead L a b) : b ∈ L := by
  obtain ⟨s, t, u, rfl⟩ := h
  simp
theorem ch_of_par {es : List El} (hO : TreeOk es) {e : Nat} (he : e < es.length) (h0 : 0 < e) : ∃ p : Nat, parentV es (e : Int) = (p : Int) ∧ p < e ∧ e ∈ chOf es p := by
  obtain ⟨q, hq⟩ : ∃ q, es[e]? = some q := ⟨_, List.getElem?_eq_getElem he⟩
  obtain ⟨p, r, h1, h2, h3, _, _, h6⟩ := hO.par e q hq h0
  refine ⟨p, (par_at hq).trans h1, h2, ?_⟩
  unfold chOf
  rw [children_at h3]
  exact List.mem_iff_getElem?.2 ⟨_, h6⟩
theorem all_in {es : List El} (hO : TreeOk es) : ∀ (m x : Nat), x ≤ m → x < es.length → x ∈ preV es 0
  | m, x, hm, hx => by
    by_cases h0 : x = 0
    · subst h0
      obtain ⟨r, hr⟩ := pre_head hO hx
      rw [hr]
      simp
    · obtain ⟨p, _, hpx, hc⟩ := ch_of_par hO hx (by omega)
      match m, hm with
      | 0, hm => omega
      | m + 1, hm =>
        have hp := all_in hO m p (by omega) (by omega)
        exact (pre_child hO _ 0 (Nat.le_refl _) (by omega) p hp x hc).mem
theorem all_nodup {es : List El} (hO : TreeOk es) : (allV es).Nodup := by
  unfold allV
  split
  · simp
  · exact pre_nodup hO _ 0 (Nat.le_refl _) (by omega)
theorem all_len {es : List El} (hO : TreeOk es) : (allV es).length = es.length := by
  have h1 : (allV es).length ≤ (List.range es.length).length := (all_nodup hO).length_le_of_subset (fun x hx => List.mem_range.2 (all_mem hO hx))
  have h2 : (List.range es.length).length ≤ (allV es).length := (List.nodup_range).length_le_of_subset (fun x hx => by
    have hx := List.mem_range.1 hx
    unfold allV
    rw [if_neg (by omega)]
    exact all_in hO _ x (Nat.le_refl _) hx)
  simp at h1 h2
  omega
/-- Where an element stands. -/
theorem all_parent {es : List El} (hO : TreeOk es) {e : Nat} (he : e < es.length) (h0 : 0 < e) : ∃ p : Nat, parentV es (e : Int) = (p : Int) ∧ p < e ∧ Ahead (allV es) p e := by
  obtain ⟨p, h1, h2, h3⟩ := ch_of_par hO he h0
  refine ⟨p, h1, h2, ?_⟩
  unfold allV
  rw [if_neg (by omega)]
  exact pre_child hO _ 0 (Nat.le_refl _) (by omega) p (all_in hO _ p (Nat.le_refl _) (by omega)) e h3
theorem ahead_at {L : List Nat} {a b : Nat} (h : Ahead L a b) : ∃ i j : Nat, i < j ∧ L[i]? = some a ∧ L[j]? = some b := by
  obtain ⟨s, t, u, rfl⟩ := h
  refine ⟨s.length, s.length + (t.length + 1), by omega, by simp, ?_⟩
  rw [List.getElem?_append_right (by omega), show s.length + (t.length + 1) - s.length = t.length + 1 by omega, List.getElem?_cons_succ]
  simp

end Go.Proofs.Ytopmahiapejkgaa.Dm
