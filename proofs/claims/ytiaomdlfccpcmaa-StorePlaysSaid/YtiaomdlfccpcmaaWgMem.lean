/- Selectors in memory, to be read: however deep they are, so many lists deep; what they weigh, in plain words (chapter 11). -/
import Derived.Test.YtiaomdlfccpcmaaSlMini
namespace Go.Proofs.Ytiaomdlfccpcmaa.Wg
open Go.Proofs.Ytiaomdlfccpcmaa.Tre
open Go Go.RowKit Sl

/-! ### rows of things -/
/-- The slice v has the things l, each in sz cells that T tells, in a block below n. -/
def RowT {α : Type} (sz : Nat) (T : List Value → α → Prop) (n : Nat) (W : World) (v : Value) (l : List α) : Prop :=
  (l = [] ∧ ∃ p c, v = .slice p 0 c) ∨ ∃ b off cap, v = .slice (some ⟨b, off, none⟩) l.length cap ∧ l.length ≤ cap ∧ cap ≤ maxLen ∧ b < n ∧
    ∀ j x, l[j]? = some x → ∃ c, c.length = sz ∧ T c x ∧ ∀ i u, c[i]? = some u → W.cell? ⟨b, off + j * sz + i, none⟩ = some u
theorem RowT.below {α : Type} {sz : Nat} {T T' : List Value → α → Prop} {n : Nat} {X Y : World} {v : Value} {l : List α} (h : RowT sz T n X v l) (hb : Below n X Y) (hT : ∀ c x, T c x → T' c x) : RowT sz T' n Y v l := by
  rcases h with h | ⟨b, off, cap, rfl, h1, h2, h3, h4⟩
  · exact .inl h
  · refine .inr ⟨b, off, cap, rfl, h1, h2, h3, fun j x hx => ?_⟩
    obtain ⟨c, hc, ht, hcell⟩ := h4 j x hx
    exact ⟨c, hc, hT _ _ ht, fun i u hu => (hb.cell (p := ⟨b, _, none⟩) h3).trans (hcell i u hu)⟩
theorem RowT.mono {α : Type} {sz : Nat} {T T' : List Value → α → Prop} {n m : Nat} {X : World} {v : Value} {l : List α} (h : RowT sz T n X v l) (hn : n ≤ m) (hT : ∀ c x, T c x → T' c x) : RowT sz T' m X v l := by
  rcases h with h | ⟨b, off, cap, rfl, h1, h2, h3, h4⟩
  · exact .inl h
  · refine .inr ⟨b, off, cap, rfl, h1, h2, by omega, fun j x hx => ?_⟩
    obtain ⟨c, hc, ht, hcell⟩ := h4 j x hx
    exact ⟨c, hc, hT _ _ ht, hcell⟩
theorem RowT.len {α : Type} {sz : Nat} {T : List Value → α → Prop} {n : Nat} {X : World} {v : Value} {l : List α} (h : RowT sz T n X v l) : ∃ p cap, v = .slice p l.length cap := by
  rcases h with ⟨rfl, p, c, rfl⟩ | ⟨b, off, cap, rfl, _⟩
  · exact ⟨p, c, rfl⟩
  · exact ⟨_, _, rfl⟩
theorem RowT.short {α : Type} {sz : Nat} {T : List Value → α → Prop} {n : Nat} {X : World} {v : Value} {l : List α} (h : RowT sz T n X v l) : l.length ≤ maxLen := by
  rcases h with ⟨rfl, _⟩ | ⟨b, off, cap, _, h1, h2, _⟩
  · exact Nat.zero_le _
  · omega
theorem RowT.get {α : Type} {sz : Nat} {T : List Value → α → Prop} {n : Nat} {X : World} {p : Option Addr} {m cap : Nat} {l : List α} (h : RowT sz T n X (.slice p m cap) l) {k : Nat} {x : α} (hk : l[k]? = some x) :
    ∃ b off c, p = some ⟨b, off, none⟩ ∧ b < n ∧ l.length ≤ cap ∧ cap ≤ maxLen ∧ c.length = sz ∧ T c x ∧ ∀ i u, c[i]? = some u → X.cell? ⟨b, off + k * sz + i, none⟩ = some u := by
  rcases h with ⟨rfl, _⟩ | ⟨b, off, c, e, h1, h2, hb, h⟩
  · simp at hk
  · cases e
    obtain ⟨c', hc, ht, hcell⟩ := h k x hk
    exact ⟨b, off, c', rfl, hb, h1, h2, hc, ht, hcell⟩

/-! ### selectors -/
def StrC (c : List Value) (x : ByteArray) : Prop := c = [.string x]
def AtC (c : List Value) (x : At) : Prop := c = [.string x.name, .int .i64 x.op, .string x.text]
def PsC (Q : Value → List Sel → Prop) (c : List Value) (p : Ps) : Prop := ∃ x, c = [.int .i64 p.kind, .int .i64 p.a, .int .i64 p.b, x] ∧ Q x p.list
def CpC (Q : Value → List Sel → Prop) (n : Nat) (W : World) (c : List Value) (q : Cp) : Prop :=
  ∃ i k a p, c = [.string q.tag, i, k, a, p] ∧ RowT 1 StrC n W i q.ids ∧ RowT 1 StrC n W k q.classes ∧ RowT 3 AtC n W a q.attrs ∧ RowT 4 (PsC Q) n W p q.pss
def PtC (Q : Value → List Sel → Prop) (n : Nat) (W : World) (c : List Value) (q : Pt) : Prop := ∃ c', c = .int .i64 q.1 :: c' ∧ CpC Q n W c' q.2
def PtsR (Q : Value → List Sel → Prop) (n : Nat) (W : World) (v : Value) (s : Sel) : Prop := RowT 6 (PtC Q n W) n W v s
/-- THE SLICE VALUE v HOLDS THE SELECTORS l, so many lists deep; what lies deeper is not told. -/
def SelsR : Nat → Nat → World → Value → List Sel → Prop
  | 0, _, _, v, l => l = [] ∧ ∃ p m c, v = .slice p m c
  | d + 1, n, W, v, l => RowT 1 (fun c s => ∃ x, c = [x] ∧ PtsR (SelsR d n W) n W x s) n W v l
abbrev PartsR (d n : Nat) (W : World) (v : Value) (s : Sel) : Prop := PtsR (SelsR d n W) n W v s
theorem CpC.below {Q Q' : Value → List Sel → Prop} {n : Nat} {X Y : World} {c : List Value} {q : Cp} (h : CpC Q n X c q) (hb : Below n X Y) (hQ : ∀ x l, Q x l → Q' x l) : CpC Q' n Y c q := by
  obtain ⟨i, k, a, p, h0, h1, h2, h3, h4⟩ := h
  exact ⟨i, k, a, p, h0, h1.below hb (fun _ _ h => h), h2.below hb (fun _ _ h => h), h3.below hb (fun _ _ h => h), h4.below hb (fun _ _ ⟨x, e, hx⟩ => ⟨x, e, hQ _ _ hx⟩)⟩
theorem CpC.mono {Q Q' : Value → List Sel → Prop} {n m : Nat} {X : World} {c : List Value} {q : Cp} (h : CpC Q n X c q) (hn : n ≤ m) (hQ : ∀ x l, Q x l → Q' x l) : CpC Q' m X c q := by
  obtain ⟨i, k, a, p, h0, h1, h2, h3, h4⟩ := h
  exact ⟨i, k, a, p, h0, h1.mono hn (fun _ _ h => h), h2.mono hn (fun _ _ h => h), h3.mono hn (fun _ _ h => h), h4.mono hn (fun _ _ ⟨x, e, hx⟩ => ⟨x, e, hQ _ _ hx⟩)⟩
theorem PtsR.below {Q Q' : Value → List Sel → Prop} {n : Nat} {X Y : World} {v : Value} {s : Sel} (h : PtsR Q n X v s) (hb : Below n X Y) (hQ : ∀ x l, Q x l → Q' x l) : PtsR Q' n Y v s :=
  RowT.below h hb (fun _ _ ⟨c', e, hc⟩ => ⟨c', e, hc.below hb hQ⟩)
theorem PtsR.mono {Q Q' : Value → List Sel → Prop} {n m : Nat} {X : World} {v : Value} {s : Sel} (h : PtsR Q n X v s) (hn : n ≤ m) (hQ : ∀ x l, Q x l → Q' x l) : PtsR Q' m X v s :=
  RowT.mono h hn (fun _ _ ⟨c', e, hc⟩ => ⟨c', e, hc.mono hn hQ⟩)
theorem SelsR.below : ∀ (d : Nat) {n : Nat} {X Y : World} {v : Value} {l : List Sel}, SelsR d n X v l → Below n X Y → SelsR d n Y v l
  | 0, _, _, _, _, _, h, _ => h
  | d + 1, _, _, _, _, _, h, hb => RowT.below h hb (fun _ _ ⟨x, e, hx⟩ => ⟨x, e, hx.below hb (fun _ _ hq => SelsR.below d hq hb)⟩)
theorem SelsR.mono : ∀ (d : Nat) {n m : Nat} {X : World} {v : Value} {l : List Sel}, SelsR d n X v l → n ≤ m → SelsR d m X v l
  | 0, _, _, _, _, _, h, _ => h
  | d + 1, _, _, _, _, _, h, hn => RowT.mono h hn (fun _ _ ⟨x, e, hx⟩ => ⟨x, e, hx.mono hn (fun _ _ hq => SelsR.mono d hq hn)⟩)
theorem SelsR.next {d : Nat} {X Y : World} {v : Value} {l : List Sel} (h : SelsR d X.heap.size X v l) (hb : Below X.heap.size X Y) : SelsR d Y.heap.size Y v l := (h.below d hb).mono d hb.size
theorem PartsR.below {d n : Nat} {X Y : World} {v : Value} {s : Sel} (h : PartsR d n X v s) (hb : Below n X Y) : PartsR d n Y v s := PtsR.below h hb (fun _ _ hq => hq.below d hb)
theorem PartsR.mono {d n m : Nat} {X : World} {v : Value} {s : Sel} (h : PartsR d n X v s) (hn : n ≤ m) : PartsR d m X v s := PtsR.mono h hn (fun _ _ hq => hq.mono d hn)
theorem PartsR.next {d : Nat} {X Y : World} {v : Value} {s : Sel} (h : PartsR d X.heap.size X v s) (hb : Below X.heap.size X Y) : PartsR d Y.heap.size Y v s := (PartsR.below h hb).mono hb.size
theorem SelsR.form {d n : Nat} {X : World} {v : Value} {l : List Sel} (h : SelsR d n X v l) : ∃ p m cap, v = .slice p m cap := by
  cases d with
  | zero => exact h.2
  | succ d => obtain ⟨p, c, h⟩ := RowT.len h; exact ⟨_, _, _, h⟩
/-- One selector of a list. -/
theorem SelsR.get {d n : Nat} {X : World} {p : Option Addr} {m cap : Nat} {l : List Sel} (h : SelsR (d + 1) n X (.slice p m cap) l) {k : Nat} {s : Sel} (hk : l[k]? = some s) :
    ∃ b off x, p = some ⟨b, off, none⟩ ∧ b < n ∧ l.length ≤ cap ∧ cap ≤ maxLen ∧ PartsR d n X x s ∧ X.cell? ⟨b, off + k, none⟩ = some x := by
  obtain ⟨b, off, c, e, hb, h1, h2, _, ⟨x, rfl, hx⟩, hc⟩ := RowT.get h hk
  exact ⟨b, off, x, e, hb, h1, h2, hx, by simpa using hc 0 x rfl⟩
/-- One part. -/
theorem PartsR.get {d n : Nat} {X : World} {p : Option Addr} {m cap : Nat} {s : Sel} (h : PartsR d n X (.slice p m cap) s) {k : Nat} {q : Pt} (hk : s[k]? = some q) :
    ∃ b off i c a ps, p = some ⟨b, off, none⟩ ∧ b < n ∧ s.length ≤ cap ∧ cap ≤ maxLen ∧
      (X.cell? ⟨b, off + k * 6, none⟩ = some (.int .i64 q.1) ∧ X.cell? ⟨b, off + k * 6 + 1, none⟩ = some (.string q.2.tag) ∧ X.cell? ⟨b, off + k * 6 + 2, none⟩ = some i ∧ X.cell? ⟨b, off + k * 6 + 3, none⟩ = some c ∧ X.cell? ⟨b, off + k * 6 + 4, none⟩ = some a ∧ X.cell? ⟨b, off + k * 6 + 5, none⟩ = some ps) ∧
      RowT 1 StrC n X i q.2.ids ∧ RowT 1 StrC n X c q.2.classes ∧ RowT 3 AtC n X a q.2.attrs ∧ RowT 4 (PsC (SelsR d n X)) n X ps q.2.pss := by
  obtain ⟨b, off, c, e, hb, h1, h2, _, ⟨c', rfl, ⟨i, k', a, ps, rfl, g1, g2, g3, g4⟩⟩, hc⟩ := RowT.get h hk
  exact ⟨b, off, i, k', a, ps, e, hb, h1, h2, ⟨hc 0 _ rfl, hc 1 _ rfl, hc 2 _ rfl, hc 3 _ rfl, hc 4 _ rfl, hc 5 _ rfl⟩, g1, g2, g3, g4⟩
/-- One pseudo-class. -/
theorem pss_get {Q : Value → List Sel → Prop} {n : Nat} {X : World} {p : Option Addr} {m cap : Nat} {l : List Ps} (h : RowT 4 (PsC Q) n X (.slice p m cap) l) {k : Nat} {q : Ps} (hk : l[k]? = some q) :
    ∃ b off x, p = some ⟨b, off, none⟩ ∧ b < n ∧ l.length ≤ cap ∧ cap ≤ maxLen ∧ Q x q.list ∧
      (X.cell? ⟨b, off + k * 4, none⟩ = some (.int .i64 q.kind) ∧ X.cell? ⟨b, off + k * 4 + 1, none⟩ = some (.int .i64 q.a) ∧ X.cell? ⟨b, off + k * 4 + 2, none⟩ = some (.int .i64 q.b) ∧ X.cell? ⟨b, off + k * 4 + 3, none⟩ = some x) := by
  obtain ⟨b, off, c, e, hb, h1, h2, _, ⟨x, rfl, hQ⟩, hc⟩ := RowT.get h hk
  exact ⟨b, off, x, e, hb, h1, h2, hQ, hc 0 _ rfl, hc 1 _ rfl, hc 2 _ rfl, hc 3 _ rfl⟩

/-! ### weights, in plain words -/
structure Sm where
  i : Nat
  c : Nat
  t : Nat
def Sm.ok (s : Sm) : Prop := s.i ≤ 255 ∧ s.c ≤ 255 ∧ s.t ≤ 255
def Sm.zero : Sm := ⟨0, 0, 0⟩
def gr (a b : Nat) : Nat := if a + b ≤ 255 then a + b else 255
def withV (a b : Sm) : Sm := ⟨gr a.i b.i, gr a.c b.c, gr a.t b.t⟩
def weightV (s : Sm) : Nat := 65536 * s.i + 256 * s.c + s.t
def namesV (c : Cp) : Sm := ⟨gr 0 c.ids.length, gr (gr 0 c.classes.length) c.attrs.length, if c.tag = ⟨#[]⟩ then 0 else 1⟩
def psV (G : List Sel → Sm) (p : Ps) : Sm := if p.kind = 7 ∨ p.kind = 8 then G p.list else ⟨0, 1, 0⟩
def compS (G : List Sel → Sm) (o : Sm) (c : Cp) : Sm := c.pss.foldl (fun o p => withV o (psV G p)) (withV o (namesV c))
def sumsV (G : List Sel → Sm) (s : Sel) : Sm := s.foldl (fun o p => compS G o p.2) Sm.zero
def heavier (a b : Sm) : Sm := if weightV a < weightV b then b else a
/-- The heaviest of a list, where lists may still stand so deep. -/
def greatV : Nat → List Sel → Sm
  | 0, _ => Sm.zero
  | d + 1, l => l.foldl (fun o s => heavier o (sumsV (greatV d) s)) Sm.zero
def ofV (s : Sel) : Nat := weightV (sumsV (greatV 8) s)
theorem gr_le (a b : Nat) : gr a b ≤ 255 := by unfold gr; split <;> omega
theorem withV_ok (a b : Sm) : (withV a b).ok := ⟨gr_le _ _, gr_le _ _, gr_le _ _⟩
theorem zero_ok : Sm.zero.ok := ⟨by decide, by decide, by decide⟩
theorem namesV_ok (c : Cp) : (namesV c).ok := ⟨gr_le _ _, gr_le _ _, by unfold namesV; simp only; split <;> omega⟩
theorem foldl_ok {α : Type} (f : Sm → α → Sm) (hf : ∀ o x, o.ok → (f o x).ok) : ∀ (l : List α) (o : Sm), o.ok → (l.foldl f o).ok
  | [], _, h => h
  | x :: l, o, h => foldl_ok f hf l _ (hf o x h)
theorem compS_ok (G : List Sel → Sm) (o : Sm) (c : Cp) : (compS G o c).ok := foldl_ok _ (fun _ _ _ => withV_ok _ _) _ _ (withV_ok _ _)
theorem sumsV_ok (G : List Sel → Sm) (s : Sel) : (sumsV G s).ok := foldl_ok _ (fun _ _ _ => compS_ok _ _ _) _ _ zero_ok
theorem heavier_ok {a b : Sm} (ha : a.ok) (hb : b.ok) : (heavier a b).ok := by unfold heavier; split <;> assumption
theorem greatV_ok : ∀ (d : Nat) (l : List Sel), (greatV d l).ok
  | 0, _ => zero_ok
  | _ + 1, _ => foldl_ok _ (fun _ _ h => heavier_ok h (sumsV_ok _ _)) _ _ zero_ok
theorem psV_ok {G : List Sel → Sm} (hG : ∀ l, (G l).ok) (p : Ps) : (psV G p).ok := by unfold psV; split; exact hG _; exact ⟨by decide, by decide, by decide⟩
def smV (s : Sm) : Value := .agg #[.int .u8 s.i, .int .u8 s.c, .int .u8 s.t]

end Go.Proofs.Ytiaomdlfccpcmaa.Wg
