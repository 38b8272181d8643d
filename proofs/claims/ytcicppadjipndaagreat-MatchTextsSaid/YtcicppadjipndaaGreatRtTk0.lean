/- The document's own Tokens, at every slice of code points that is not too long. -/
import Derived.Test.YtcicppadjipndaaGreatBsM
namespace Go.Proofs.YtcicppadjipndaaGreat.Ref
open Go Go.RowKit Go.Shelf

theorem infoTk : (Tryz.prog.info? 105).map (fun i => (i.zero, i.size, i.bytes)) = some (some (.agg #[.int .i64 0, .string ⟨#[]⟩, .int .i64 0, .bool false, .int .i64 0]), 5, 48) := by kernel_rfl
theorem btCells_one (t : Bt) : ∀ u ∈ btCells t, u.oneCell' = true := fun u hu => by
  simp [btCells] at hu
  rcases hu with rfl | rfl | rfl | rfl | rfl <;> rfl

/-- Where the tokens are read: those so far, what is ahead. -/
structure Ts (w : World) (raw : List Int) (v : Value) (ts : List Tk) (l : List Int) (X : World) : Prop where
  row : X.ownsRow (w.heap.size + 1) 105 5 v ts.length (btsCells (ts.map btOf))
  at' : At w.heap.size X w.heap.size raw l
  below : Below w.heap.size w X
  size : w.heap.size + 1 ≤ X.heap.size
theorem Ts.far {w : World} {raw : List Int} {v : Value} {ts : List Tk} {l l' : List Int} {X Y : World} (h : Ts w raw v ts l X) (g : X.grownBy Y (some w.heap.size)) (k : At w.heap.size Y w.heap.size raw l') : Ts w raw v ts l' Y :=
  ⟨owns_far h.row g (by omega), k, h.below.grown g (by have := h.size; omega) (fun r e => by cases e; omega), Nat.le_trans h.size g.size⟩
theorem Ts.kept {w : World} {raw : List Int} {v : Value} {ts : List Tk} {l : List Int} {X Y : World} (h : Ts w raw v ts l X) (g : X.grownBy Y none) : Ts w raw v ts l Y := h.far (grown_but g _) (h.at'.kept g)
theorem Ts.step {w : World} {raw : List Int} {v : Value} {ts : List Tk} {l : List Int} {c : Int} {X : World} (h : Ts w raw v ts (c :: l) X) : ∃ a : Nat, X.cell? ⟨w.heap.size, 1, none⟩ = some (.int .i64 a) ∧ X.frozen? ⟨w.heap.size, 1, none⟩ = false ∧ (a : Int) ≤ 1000002 ∧
    ∀ u, u = .int .i64 ((a : Int) + 1) → Ts w raw v ts l (X.setCell ⟨w.heap.size, 1, none⟩ u) := by
  obtain ⟨a, h1, h2, h3, h4⟩ := h.at'.step
  exact ⟨a, h1, h2, h3, fun u e => h.far (h4 u e).2 (h4 u e).1⟩
/-- One token more. -/
theorem Ts.push {w : World} {raw : List Int} {v v' : Value} {ts : List Tk} {x : Tk} {l : List Int} {X Y : World} {o : Obj} (h : Ts w raw v ts l X) (hg : (X.alloc o).grownBy Y v.ownBlock) (hr : Y.ownsRow (w.heap.size + 1) 105 5 v' (ts.length + 1) (btsCells (ts.map btOf) ++ btCells (btOf x))) : Ts w raw v' (ts ++ [x]) l Y := by
  have far : ∀ j, v.ownBlock = some j → w.heap.size + 1 ≤ j := fun j e => (World.ownsRow.lt h.row j e).1
  refine ⟨?_, (h.at'.kept (World.grownBy_alloc X o none)).kept_far hg (fun j e => by have := far j e; omega), ?_, ?_⟩
  · have e : btsCells ((ts ++ [x]).map btOf) = btsCells (ts.map btOf) ++ btCells (btOf x) := by simp [btsCells]
    rw [e, List.length_append]
    exact hr
  · exact (h.below.alloc (by have := h.size; omega) o).grown hg (by have := h.size; rw [World.size_alloc]; omega) (fun j e => by have := far j e; omega)
  · have h1 := hg.size
    have h2 := h.size
    rw [World.size_alloc] at h1
    omega

/-- The reader is not behind the end. -/
def AtE (n₀ : Nat) (W : World) (R : Nat) (raw l : List Int) : Prop := ∃ v a, Rd n₀ W R v raw a ∧ a ≤ raw.length ∧ l = (raw.map fixC).drop a
theorem AtE.at' {n₀ : Nat} {W : World} {R : Nat} {raw l : List Int} (h : AtE n₀ W R raw l) : At n₀ W R raw l := by
  obtain ⟨v, a, h1, _, h2⟩ := h
  exact ⟨v, a, h1, h2⟩
theorem AtE.kept {n₀ : Nat} {W W' : World} {R : Nat} {raw l : List Int} (h : AtE n₀ W R raw l) (g : W.grownBy W' none) : AtE n₀ W' R raw l := by
  obtain ⟨v, a, h1, h2, h3⟩ := h
  exact ⟨v, a, h1.kept g, h2, h3⟩
theorem At.goE {n₀ : Nat} {W : World} {R : Nat} {raw l : List Int} (h : At n₀ W R raw l) (k : Nat) (hk : k ≤ l.length) (h0 : l ≠ []) : ∃ a : Nat, W.cell? ⟨R, 1, none⟩ = some (.int .i64 a) ∧ W.frozen? ⟨R, 1, none⟩ = false ∧ (a : Int) ≤ 1000002 ∧
    ∀ u, u = .int .i64 ((a : Int) + k) → AtE n₀ (W.setCell ⟨R, 1, none⟩ u) R raw (l.drop k) := by
  obtain ⟨v, a, hr, rfl⟩ := h
  have hm := hr.most
  have hl := hr.least
  refine ⟨a, hr.pair.c1, hr.pair.f1, by omega, fun u e => ?_⟩
  rw [Ne, List.drop_eq_nil_iff, List.length_map] at h0
  rw [List.length_drop, List.length_map] at hk
  refine ⟨v, a + k, ?_, by omega, by rw [List.drop_drop]⟩
  rw [e, show ((a : Int) + k) = ((a + k : Nat) : Int) by omega]
  exact hr.set (a + k) (by omega)
theorem AtE.go2 {n₀ : Nat} {W : World} {R : Nat} {raw l : List Int} (h : AtE n₀ W R raw l) : ∃ a : Nat, W.cell? ⟨R, 1, none⟩ = some (.int .i64 a) ∧ W.frozen? ⟨R, 1, none⟩ = false ∧ (a : Int) ≤ 1000002 ∧
    ∀ u, u = .int .i64 ((a : Int) + 2) → At n₀ (W.setCell ⟨R, 1, none⟩ u) R raw (l.drop 2) := by
  obtain ⟨v, a, hr, hle, rfl⟩ := h
  have hm := hr.most
  refine ⟨a, hr.pair.c1, hr.pair.f1, by omega, fun u e => ⟨v, a + 2, ?_, by rw [List.drop_drop]⟩⟩
  rw [e, show ((a : Int) + 2) = ((a + 2 : Nat) : Int) by omega]
  exact hr.set (a + 2) (by omega)
structure TsE (w : World) (raw : List Int) (v : Value) (ts : List Tk) (l : List Int) (X : World) : Prop where
  ts : Ts w raw v ts l X
  ate : AtE w.heap.size X w.heap.size raw l
theorem TsE.at' {w : World} {raw : List Int} {v : Value} {ts : List Tk} {l : List Int} {X : World} (h : TsE w raw v ts l X) : At w.heap.size X w.heap.size raw l := h.ts.at'
theorem TsE.kept {w : World} {raw : List Int} {v : Value} {ts : List Tk} {l : List Int} {X Y : World} (h : TsE w raw v ts l X) (g : X.grownBy Y none) : TsE w raw v ts l Y := ⟨h.ts.kept g, h.ate.kept g⟩
theorem Ts.step2E {w : World} {raw : List Int} {v : Value} {ts : List Tk} {l : List Int} {c d : Int} {X : World} (h : Ts w raw v ts (c :: d :: l) X) : ∃ a : Nat, X.cell? ⟨w.heap.size, 1, none⟩ = some (.int .i64 a) ∧ X.frozen? ⟨w.heap.size, 1, none⟩ = false ∧ (a : Int) ≤ 1000002 ∧
    ∀ u, u = .int .i64 ((a : Int) + 2) → TsE w raw v ts l (X.setCell ⟨w.heap.size, 1, none⟩ u) := by
  obtain ⟨a, h1, h2, h3, h4⟩ := h.at'.goE 2 (by simp) (by simp)
  exact ⟨a, h1, h2, h3, fun u e => ⟨h.far (grown_set1 _ _ _) (h4 u e).at', h4 u e⟩⟩
theorem TsE.step {w : World} {raw : List Int} {v : Value} {ts : List Tk} {l : List Int} {c : Int} {X : World} (h : TsE w raw v ts (c :: l) X) : ∃ a : Nat, X.cell? ⟨w.heap.size, 1, none⟩ = some (.int .i64 a) ∧ X.frozen? ⟨w.heap.size, 1, none⟩ = false ∧ (a : Int) ≤ 1000002 ∧
    ∀ u, u = .int .i64 ((a : Int) + 1) → TsE w raw v ts l (X.setCell ⟨w.heap.size, 1, none⟩ u) := by
  obtain ⟨a, h1, h2, h3, h4⟩ := h.at'.goE 1 (by simp) (by simp)
  exact ⟨a, h1, h2, h3, fun u e => ⟨h.ts.far (grown_set1 _ _ _) (h4 u e).at', h4 u e⟩⟩
theorem TsE.stop {w : World} {raw : List Int} {v : Value} {ts : List Tk} {l : List Int} {X : World} (h : TsE w raw v ts l X) : ∃ a : Nat, X.cell? ⟨w.heap.size, 1, none⟩ = some (.int .i64 a) ∧ X.frozen? ⟨w.heap.size, 1, none⟩ = false ∧ (a : Int) ≤ 1000002 ∧
    ∀ u, u = .int .i64 ((a : Int) + 2) → Ts w raw v ts (l.drop 2) (X.setCell ⟨w.heap.size, 1, none⟩ u) := by
  obtain ⟨a, h1, h2, h3, h4⟩ := h.ate.go2
  exact ⟨a, h1, h2, h3, fun u e => h.ts.far (grown_set1 _ _ _) (h4 u e)⟩

theorem size_setCell' (X : World) (a : Addr) (u : Value) : (X.setCell a u).heap.size = X.heap.size := by simp [World.setCell]
theorem cells_new_set (X : World) (a : Addr) (u : Value) (l : List Value) (ty : TypeId) : ∀ j y, l[j]? = some y → ((X.setCell a u).alloc (.cells l.toArray ty)).cell? ((⟨X.heap.size, 0, none⟩ : Addr).add j) = some y := by
  have := cells_new (X.setCell a u) l ty
  rw [size_setCell'] at this
  exact this
theorem begNum_first {c : Int} {r : List Int} (h : begNum (c :: r) = true) : (48 ≤ c ∧ c ≤ 57) ∨ c = 43 ∨ c = 45 ∨ c = 46 := by
  rw [begNum_eq, see_zero] at h
  split at h
  · omega
  · rw [Bool.or_eq_true, Bool.and_eq_true, isDigit_iff] at h
    rcases h with h | ⟨h, _⟩
    · exact .inl h
    · exact .inr (.inr (.inr (by simpa using h)))
theorem begName_first {c : Int} {r : List Int} (h : begName (c :: r) = true) : (97 ≤ c ∧ c ≤ 122) ∨ (65 ≤ c ∧ c ≤ 90) ∨ c = 95 ∨ 128 ≤ c ∨ c = 45 ∨ c = 92 := by
  have e := begName_eq (c :: r) 0
  rw [List.drop_zero] at e
  rw [e, see_zero] at h
  split at h
  · omega
  · rw [Bool.or_eq_true, nameStart_iff] at h
    rcases h with h | h
    · omega
    · unfold escAt at h
      rw [see_zero] at h
      have : c = 92 := by
        have := (Bool.and_eq_true _ _ ▸ (Bool.and_eq_true _ _ ▸ h).1).1
        simpa using this
      omega
theorem sign_first {c : Int} (h : 0 < sign c) : c = 58 ∨ c = 59 ∨ c = 44 ∨ c = 123 ∨ c = 125 ∨ c = 40 ∨ c = 41 ∨ c = 91 ∨ c = 93 := by
  unfold sign at h
  repeat' split at h
  all_goals omega
theorem sign_ge (c : Int) : 0 ≤ sign c := by
  unfold sign
  repeat' split
  all_goals omega
theorem fin_some {ts A : List Tk} {c : Int} {r L : List Int} {x : Tk} (hs : step nv (c :: r) = (some x, L)) (e : ts ++ toks nv (c :: r) = A) : (ts ++ [x]) ++ toks nv L = A := by
  rw [← e, toks_cons, hs]
  simp
theorem fin_none {ts A : List Tk} {c : Int} {r L : List Int} (hs : step nv (c :: r) = (none, L)) (e : ts ++ toks nv (c :: r) = A) : ts ++ toks nv L = A := by
  rw [← e, toks_cons, hs]
  simp
theorem fin_len {ts A : List Tk} {L : List Int} (e : ts ++ toks nv L = A) (h : A.length ≤ 1000000) : ts.length ≤ 1000000 := by
  rw [← e, List.length_append] at h
  omega

/-! ### the arms of the switch, out of the function's own code -/
def sndC : Code → Code
  | .seq _ b => b
  | c => c
def fstC : Code → Code
  | .seq a _ => a
  | c => c
def blkC : Code → Code
  | .block _ c => c
  | c => c
def lopC : Code → Code
  | .loop c => c
  | c => c
def thnC : Code → Code
  | .cond _ a _ => a
  | c => c
def elsC : Code → Code
  | .cond _ _ a => a
  | c => c
def sw (b : Code) : Code := blkC (sndC (sndC (sndC (blkC (sndC (lopC (blkC (fstC (sndC (sndC (sndC b)))))))))))
def nth (c : Code) : Nat → Code
  | 0 => c
  | k + 1 => elsC (sndC (nth c k))
def frag (f : Func) (k : Nat) : Option Code := f.body.map fun b => if k < 8 then thnC (sndC (nth (sw b) k)) else nth (sw b) 8
/-- What stands behind the test for strings. -/
def fragE (f : Func) : Option Code := f.body.map fun b => nth (sw b) 3
set_option maxRecDepth 100000 in
set_option maxHeartbeats 4000000 in
theorem arm_comment {x0 x1 x2 x6 x7 x8 x9 x10 x11 x12 x13 x14 x15 x16 x17 x18 x19 x20 x21 x22 x23 x24 x25 x26 x27 x28 x29 x30 x31 x32 x33 x34 x35 x36 x37 x38 x39 x40 x41 x42 x43 x44 x45 x46 x47 x48 x49 x50 x51 x52 x53 x54 x55 x56 x57 x58 x59 x60 x61 x62 x63 x64 x65 x66 x67 x68 x69 x70 x71 x72 x73 x74 x75 x76 x77 x78 x79 x80 x81 x82 x83 x84 x85 x86 x87 x88 x89 x90 x91 x92 x93 x94 x95 x96 x97 x98 x99 x100 x101 x102 x103 x104 x105 x106 x107 x108 x109 x110 x111 x112 x113 x114 x115 x116 x117 x118 x119 x120 x121 x122 x123 x124 x125 x126 x127 x128 x129 x130 x131 x132 x133 x134 x135 x136 x137 x138 x139 x140 x141 x142 x143 x144 x145 x146 x147 x148 x149 x150 x151 x152 x153 x154 x155 x156 x157 x158 x159 x160 x161 x162 x163 x164 x165 x166 x167 x168 x169 x170 x171 x172 x173 x174 x175 x176 x177 x178 x179 x180 x181 x182 x183 x184 x185 x186 x187 x188 x189 x190 x191 x192 x193 x194 x195 x196 x197 x198 x199 x200 x201 x202 x203 x204 x205 x206 x207 : Value} {w X : World} {raw r : List Int} {v : Value} {ts : List Tk} {c : Int} {code : Code} {Q : Exit → Act → World → Prop} (hcode : frag Tryz.f27 0 = some code)
    (hT : Ts w raw v ts (c :: 42 :: r) X) (_hb : ts.length ≤ 1000000) (hFin : ∀ {y45 y46 y47 y48 y49 y50 y51 y52 y53 y54 y55 y56 y57 y58 y59 y60 y61 y62 y63 y64 y65 y66 y67 y68 y69 y70 y71 y72 y73 y74 y75 y76 y77 y78 y79 y80 : Value} {W' : World}, Ts w raw v ts (skipC r) W' → Q .normal { tmps := #[x0, x1, x2, .pointer (some ⟨w.heap.size, 0, none⟩), v, .int .i64 c, x6, x7, x8, x9, x10, x11, x12, x13, x14, x15, x16, x17, x18, x19, x20, x21, x22, x23, x24, x25, x26, x27, x28, x29, x30, x31, x32, x33, x34, x35, x36, x37, x38, x39, x40, x41, x42, x43, x44, y45, y46, y47, y48, y49, y50, y51, y52, y53, y54, y55, y56, y57, y58, y59, y60, y61, y62, y63, y64, y65, y66, y67, y68, y69, y70, y71, y72, y73, y74, y75, y76, y77, y78, y79, y80, x81, x82, x83, x84, x85, x86, x87, x88, x89, x90, x91, x92, x93, x94, x95, x96, x97, x98, x99, x100, x101, x102, x103, x104, x105, x106, x107, x108, x109, x110, x111, x112, x113, x114, x115, x116, x117, x118, x119, x120, x121, x122, x123, x124, x125, x126, x127, x128, x129, x130, x131, x132, x133, x134, x135, x136, x137, x138, x139, x140, x141, x142, x143, x144, x145, x146, x147, x148, x149, x150, x151, x152, x153, x154, x155, x156, x157, x158, x159, x160, x161, x162, x163, x164, x165, x166, x167, x168, x169, x170, x171, x172, x173, x174, x175, x176, x177, x178, x179, x180, x181, x182, x183, x184, x185, x186, x187, x188, x189, x190, x191, x192, x193, x194, x195, x196, x197, x198, x199, x200, x201, x202, x203, x204, x205, x206, x207], defers := [] } W') :
    Code.wp Tryz.prog code Q { tmps := #[x0, x1, x2, .pointer (some ⟨w.heap.size, 0, none⟩), v, .int .i64 c, x6, x7, x8, x9, x10, x11, x12, x13, x14, x15, x16, x17, x18, x19, x20, x21, x22, x23, x24, x25, x26, x27, x28, x29, x30, x31, x32, x33, x34, x35, x36, x37, x38, x39, x40, x41, x42, x43, x44, x45, x46, x47, x48, x49, x50, x51, x52, x53, x54, x55, x56, x57, x58, x59, x60, x61, x62, x63, x64, x65, x66, x67, x68, x69, x70, x71, x72, x73, x74, x75, x76, x77, x78, x79, x80, x81, x82, x83, x84, x85, x86, x87, x88, x89, x90, x91, x92, x93, x94, x95, x96, x97, x98, x99, x100, x101, x102, x103, x104, x105, x106, x107, x108, x109, x110, x111, x112, x113, x114, x115, x116, x117, x118, x119, x120, x121, x122, x123, x124, x125, x126, x127, x128, x129, x130, x131, x132, x133, x134, x135, x136, x137, x138, x139, x140, x141, x142, x143, x144, x145, x146, x147, x148, x149, x150, x151, x152, x153, x154, x155, x156, x157, x158, x159, x160, x161, x162, x163, x164, x165, x166, x167, x168, x169, x170, x171, x172, x173, x174, x175, x176, x177, x178, x179, x180, x181, x182, x183, x184, x185, x186, x187, x188, x189, x190, x191, x192, x193, x194, x195, x196, x197, x198, x199, x200, x201, x202, x203, x204, x205, x206, x207], defers := [] } X := by
  obtain ⟨i0, hi, hz0, hz1, hz2⟩ := info_parts infoTk
  have hcode' := (Option.some.inj (show some _ = some code from hcode)).symm
  conv at hcode' => rhs; whnf
  subst hcode'
  clear hcode
  obtain ⟨a, ca, fa, ha, hst⟩ := hT.step2E
  clear hi hz0 hz1 hz2
  go_wp2
  have hE := hst _ rfl
  clear hst ca fa hT
  generalize World.setCell X _ _ = W6 at *
  obtain ⟨SK, hSK⟩ : ∃ SK, skipC r = SK := ⟨_, rfl⟩
  rw [hSK] at hFin
  go_loopw [] (fun wr => ∃ l', TsE w raw v ts l' wr ∧ skipC l' = SK) (fun wr => lenOf raw wr w.heap.size)
  case atStart => exact ⟨r, hE, hSK⟩
  case round =>
    clear hE hSK
    obtain ⟨l', hE, hk⟩ := hrel
    rename World => X
    have hm2 := hE.at'.lenOf
    have s0 := see0 hE.at'
    have s1 := see1 hE.at'
    have g0 : X.grownBy X none := World.grownBy.refl _ _
    cases l' with
    | nil =>
      have hk' : SK = [] := hk.symm
      subst hk'
      clear hk
      rw [see_nil] at s0
      go_wp2_with fail
      refine (s0 _ g0).mono ?_
      rintro e W1 ⟨rfl, g1⟩
      obtain ⟨a, ca, fa, ha, hst⟩ := (hE.kept g1).stop
      go_wp2
      first | exact hFin (hst _ rfl) | exact (hst _ rfl)
    | cons d r' =>
      have hc0 : 0 ≤ d := hE.at'.mem (List.mem_cons_self ..)
      rw [see_zero] at s0
      rw [see_succ] at s1
      go_wp2_with fail
      refine (s0 _ g0).mono ?_
      rintro e W1 ⟨rfl, g1⟩
      go_wp2_with fail
      refine (s0 _ g1).mono ?_
      rintro e W2 ⟨rfl, g2⟩
      by_cases h42 : d = 42
      · subst h42
        go_wp2_with fail
        refine (s1 _ g2).mono ?_
        rintro e W3 ⟨rfl, g3⟩
        by_cases h47 : see r' 0 = 47
        · have hk' : SK = r'.tail := by rw [← hk, skipC, if_pos ⟨rfl, h47⟩]
          subst hk'
          clear hk
          rw [h47]
          obtain ⟨a, ca, fa, ha, hst⟩ := (hE.kept g3).stop
          go_wp2
          have T9 := hst _ rfl
          rw [show (42 :: r').drop 2 = r'.tail by simp] at T9
          first | exact hFin T9 | exact T9
        · have HK : Hid (skipC r' = SK) := by show _ = _; rw [← hk, skipC, if_neg (fun e => h47 e.2)]
          clear hk
          obtain ⟨a, ca, fa, ha, hst⟩ := (hE.kept g3).step
          generalize see r' 0 = x at *
          have h47' : (x != 47) = true := by simpa using h47
          go_wp2
          have E9 := hst _ rfl
          have hm9 := E9.at'.lenOf
          refine ⟨?_, by rw [hm2, hm9]; simp⟩
          first
            | exact ⟨r', E9, HK⟩
            | (repeat apply Exists.intro
               exact ⟨⟨r', E9, HK⟩, rfl⟩)
      · have HK : Hid (skipC r' = SK) := by show _ = _; rw [← hk, skipC, if_neg (fun e => h42 e.1)]
        clear hk
        have h42' : (d != 42) = true := by simpa using h42
        obtain ⟨a, ca, fa, ha, hst⟩ := (hE.kept g2).step
        go_wp2
        have E9 := hst _ rfl
        have hm9 := E9.at'.lenOf
        refine ⟨?_, by rw [hm2, hm9]; simp⟩
        first
          | exact ⟨r', E9, HK⟩
          | (repeat apply Exists.intro
             exact ⟨⟨r', E9, HK⟩, rfl⟩)

set_option maxRecDepth 100000 in
set_option maxHeartbeats 4000000 in
theorem arm_white {x0 x1 x2 x6 x7 x8 x9 x10 x11 x12 x13 x14 x15 x16 x17 x18 x19 x20 x21 x22 x23 x24 x25 x26 x27 x28 x29 x30 x31 x32 x33 x34 x35 x36 x37 x38 x39 x40 x41 x42 x43 x44 x45 x46 x47 x48 x49 x50 x51 x52 x53 x54 x55 x56 x57 x58 x59 x60 x61 x62 x63 x64 x65 x66 x67 x68 x69 x70 x71 x72 x73 x74 x75 x76 x77 x78 x79 x80 x81 x82 x83 x84 x85 x86 x87 x88 x89 x90 x91 x92 x93 x94 x95 x96 x97 x98 x99 x100 x101 x102 x103 x104 x105 x106 x107 x108 x109 x110 x111 x112 x113 x114 x115 x116 x117 x118 x119 x120 x121 x122 x123 x124 x125 x126 x127 x128 x129 x130 x131 x132 x133 x134 x135 x136 x137 x138 x139 x140 x141 x142 x143 x144 x145 x146 x147 x148 x149 x150 x151 x152 x153 x154 x155 x156 x157 x158 x159 x160 x161 x162 x163 x164 x165 x166 x167 x168 x169 x170 x171 x172 x173 x174 x175 x176 x177 x178 x179 x180 x181 x182 x183 x184 x185 x186 x187 x188 x189 x190 x191 x192 x193 x194 x195 x196 x197 x198 x199 x200 x201 x202 x203 x204 x205 x206 x207 : Value} {w X : World} {raw r : List Int} {v : Value} {ts : List Tk} {c : Int} {code : Code} {Q : Exit → Act → World → Prop} (hcode : frag Tryz.f27 1 = some code)
    (hT : Ts w raw v ts r X) (hb : ts.length ≤ 1000000) (hFin : ∀ {y84 y85 y86 y87 y88 y89 y90 y91 y92 y93 y94 y95 y96 y97 v' : Value} {W' : World}, Ts w raw v' (ts ++ [⟨9, [], 0, false, 0⟩]) (r.dropWhile isWhite) W' → Q .normal { tmps := #[x0, x1, x2, .pointer (some ⟨w.heap.size, 0, none⟩), v', .int .i64 c, x6, x7, x8, x9, x10, x11, x12, x13, x14, x15, x16, x17, x18, x19, x20, x21, x22, x23, x24, x25, x26, x27, x28, x29, x30, x31, x32, x33, x34, x35, x36, x37, x38, x39, x40, x41, x42, x43, x44, x45, x46, x47, x48, x49, x50, x51, x52, x53, x54, x55, x56, x57, x58, x59, x60, x61, x62, x63, x64, x65, x66, x67, x68, x69, x70, x71, x72, x73, x74, x75, x76, x77, x78, x79, x80, x81, x82, x83, y84, y85, y86, y87, y88, y89, y90, y91, y92, y93, y94, y95, y96, y97, x98, x99, x100, x101, x102, x103, x104, x105, x106, x107, x108, x109, x110, x111, x112, x113, x114, x115, x116, x117, x118, x119, x120, x121, x122, x123, x124, x125, x126, x127, x128, x129, x130, x131, x132, x133, x134, x135, x136, x137, x138, x139, x140, x141, x142, x143, x144, x145, x146, x147, x148, x149, x150, x151, x152, x153, x154, x155, x156, x157, x158, x159, x160, x161, x162, x163, x164, x165, x166, x167, x168, x169, x170, x171, x172, x173, x174, x175, x176, x177, x178, x179, x180, x181, x182, x183, x184, x185, x186, x187, x188, x189, x190, x191, x192, x193, x194, x195, x196, x197, x198, x199, x200, x201, x202, x203, x204, x205, x206, x207], defers := [] } W') :
    Code.wp Tryz.prog code Q { tmps := #[x0, x1, x2, .pointer (some ⟨w.heap.size, 0, none⟩), v, .int .i64 c, x6, x7, x8, x9, x10, x11, x12, x13, x14, x15, x16, x17, x18, x19, x20, x21, x22, x23, x24, x25, x26, x27, x28, x29, x30, x31, x32, x33, x34, x35, x36, x37, x38, x39, x40, x41, x42, x43, x44, x45, x46, x47, x48, x49, x50, x51, x52, x53, x54, x55, x56, x57, x58, x59, x60, x61, x62, x63, x64, x65, x66, x67, x68, x69, x70, x71, x72, x73, x74, x75, x76, x77, x78, x79, x80, x81, x82, x83, x84, x85, x86, x87, x88, x89, x90, x91, x92, x93, x94, x95, x96, x97, x98, x99, x100, x101, x102, x103, x104, x105, x106, x107, x108, x109, x110, x111, x112, x113, x114, x115, x116, x117, x118, x119, x120, x121, x122, x123, x124, x125, x126, x127, x128, x129, x130, x131, x132, x133, x134, x135, x136, x137, x138, x139, x140, x141, x142, x143, x144, x145, x146, x147, x148, x149, x150, x151, x152, x153, x154, x155, x156, x157, x158, x159, x160, x161, x162, x163, x164, x165, x166, x167, x168, x169, x170, x171, x172, x173, x174, x175, x176, x177, x178, x179, x180, x181, x182, x183, x184, x185, x186, x187, x188, x189, x190, x191, x192, x193, x194, x195, x196, x197, x198, x199, x200, x201, x202, x203, x204, x205, x206, x207], defers := [] } X := by
  obtain ⟨i0, hi, hz0, hz1, hz2⟩ := info_parts infoTk
  have hcode' := (Option.some.inj (show some _ = some code from hcode)).symm
  conv at hcode' => rhs; whnf
  subst hcode'
  clear hcode
  obtain ⟨L2, hL2⟩ : ∃ L2, r.dropWhile isWhite = L2 := ⟨_, rfl⟩
  rw [hL2] at hFin
  go_wp2_with fail
  go_loopw [] (fun wr => ∃ l', Ts w raw v ts l' wr ∧ l'.dropWhile isWhite = L2) (fun wr => lenOf raw wr w.heap.size)
  case atStart => exact ⟨r, hT, hL2⟩
  case round =>
    clear hT hL2
    obtain ⟨l', hT, hk⟩ := hrel
    rename World => X
    have hm2 := hT.at'.lenOf
    have s0 := see0 hT.at'
    have wh := white_any (see l' 0)
    have g0 : X.grownBy X none := World.grownBy.refl _ _
    cases hw : isWhite (see l' 0) with
    | true =>
      obtain ⟨c2, r2, rfl⟩ : ∃ c2 r2, l' = c2 :: r2 := List.exists_cons_of_ne_nil (fun e => by rw [e] at hw; exact absurd hw (by decide))
      rw [hw] at wh
      rw [see_zero] at hw s0 wh
      have HK : Hid (r2.dropWhile isWhite = L2) := by show _ = _; rw [← hk, List.dropWhile_cons, if_pos hw]
      clear hk hw
      go_wp2_with fail
      refine (s0 _ g0).mono ?_
      rintro e W1 ⟨rfl, g1⟩
      go_wp2_with fail
      refine (wh _).mono ?_
      rintro e W1 ⟨rfl, rfl⟩
      obtain ⟨a, ca, fa, ha, hst⟩ := (hT.kept g1).step
      go_wp2
      have T9 := hst _ rfl
      have hm9 := T9.at'.lenOf
      refine ⟨?_, by rw [hm2, hm9]; simp⟩
      first
        | exact ⟨r2, T9, HK⟩
        | (repeat apply Exists.intro
           exact ⟨⟨r2, T9, HK⟩, rfl⟩)
    | false =>
      have hk' : l' = L2 := by
        rw [← hk]
        cases l' with
        | nil => rfl
        | cons c2 r2 => rw [see_zero] at hw; rw [List.dropWhile_cons, hw]; rfl
      subst hk'
      rw [hw] at wh
      clear hk hw
      go_wp2_with fail
      refine (s0 _ g0).mono ?_
      rintro e W1 ⟨rfl, g1⟩
      go_wp2_with fail
      refine (wh _).mono ?_
      rintro e W1 ⟨rfl, rfl⟩
      have T1 := hT.kept g1
      have hz := T1.size
      go_wp2_with (at_builtin; refine wpList_append_own _ rfl _ _ 67 rfl (w.heap.size + 1) 105 i0 (.agg #[.int .i64 0, .string ⟨#[]⟩, .int .i64 0, .bool false, .int .i64 0]) 5 48 Tryz.underlying67 hi hz0 hz1 hz2 rfl (by decide) _ _ _ rfl (World.ownsRow.alloc T1.row _) ⟨W1.heap.size, 0, none⟩ 1 1 (btCells (btOf ⟨9, [], 0, false, 0⟩)) rfl rfl (cells_new _ (btCells (btOf ⟨9, [], 0, false, 0⟩)) _) (btCells_one _) (by unfold maxLen; omega) (by omega) (by simp; omega) ?_; intro v' w' hown' hgrow' hnil')
      first | exact hFin (T1.push hgrow' hown') | exact T1.push hgrow' hown'

end Go.Proofs.YtcicppadjipndaaGreat.Ref
