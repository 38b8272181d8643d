/- The document's own Tokens: the arms that tell a token at once. -/
import Derived.Test.YtcmmdojlhfmddaaGreatRtTk0
set_option maxRecDepth 100000
namespace Go.Proofs.YtcmmdojlhfmddaaGreat.Ref
open Go Go.RowKit Go.Shelf
set_option maxHeartbeats 4000000 in
theorem arm_str {x0 x1 x2 x6 x7 x8 x9 x10 x11 x12 x13 x14 x15 x16 x17 x18 x19 x20 x21 x22 x23 x24 x25 x26 x27 x28 x29 x30 x31 x32 x33 x34 x35 x36 x37 x38 x39 x40 x41 x42 x43 x44 x45 x46 x47 x48 x49 x50 x51 x52 x53 x54 x55 x56 x57 x58 x59 x60 x61 x62 x63 x64 x65 x66 x67 x68 x69 x70 x71 x72 x73 x74 x75 x76 x77 x78 x79 x80 x81 x82 x83 x84 x85 x86 x87 x88 x89 x90 x91 x92 x93 x94 x95 x96 x97 x98 x99 x100 x101 x102 x103 x104 x105 x106 x107 x108 x109 x110 x111 x112 x113 x114 x115 x116 x117 x118 x119 x120 x121 x122 x123 x124 x125 x126 x127 x128 x129 x130 x131 x132 x133 x134 x135 x136 x137 x138 x139 x140 x141 x142 x143 x144 x145 x146 x147 x148 x149 x150 x151 x152 x153 x154 x155 x156 x157 x158 x159 x160 x161 x162 x163 x164 x165 x166 x167 x168 x169 x170 x171 x172 x173 x174 x175 x176 x177 x178 x179 x180 x181 x182 x183 x184 x185 x186 x187 x188 x189 x190 x191 x192 x193 x194 x195 x196 x197 x198 x199 x200 x201 x202 x203 x204 x205 x206 x207:Value} {w X:World} {raw r:List Int} {v:Value} {ts:List Tk} {c:Int} {code:Code} {Q:Exit → Act → World → Prop} (hcode:frag Tryz.f11 2 = some code)
  (hT:Ts w raw v ts (c :: r) X) (hb:ts.length ≤ 1000000) (hFin:∀ {y8 y105 y106 y107 y108 y109 y110 v':Value} {W':World},Ts w raw v' (ts ++ [strTk (str c r).1]) (str c r).2 W' → Q .normal { tmps:=#[x0,x1,x2,.pointer (some ⟨w.heap.size,0,none⟩),v',.int .i64 c,x6,x7,y8,x9,x10,x11,x12,x13,x14,x15,x16,x17,x18,x19,x20,x21,x22,x23,x24,x25,x26,x27,x28,x29,x30,x31,x32,x33,x34,x35,x36,x37,x38,x39,x40,x41,x42,x43,x44,x45,x46,x47,x48,x49,x50,x51,x52,x53,x54,x55,x56,x57,x58,x59,x60,x61,x62,x63,x64,x65,x66,x67,x68,x69,x70,x71,x72,x73,x74,x75,x76,x77,x78,x79,x80,x81,x82,x83,x84,x85,x86,x87,x88,x89,x90,x91,x92,x93,x94,x95,x96,x97,x98,x99,x100,x101,x102,x103,x104,y105,y106,y107,y108,y109,y110,x111,x112,x113,x114,x115,x116,x117,x118,x119,x120,x121,x122,x123,x124,x125,x126,x127,x128,x129,x130,x131,x132,x133,x134,x135,x136,x137,x138,x139,x140,x141,x142,x143,x144,x145,x146,x147,x148,x149,x150,x151,x152,x153,x154,x155,x156,x157,x158,x159,x160,x161,x162,x163,x164,x165,x166,x167,x168,x169,x170,x171,x172,x173,x174,x175,x176,x177,x178,x179,x180,x181,x182,x183,x184,x185,x186,x187,x188,x189,x190,x191,x192,x193,x194,x195,x196,x197,x198,x199,x200,x201,x202,x203,x204,x205,x206,x207],defers:=[] } W') :
  Code.wp Tryz.prog code Q { tmps:=#[x0,x1,x2,.pointer (some ⟨w.heap.size,0,none⟩),v,.int .i64 c,x6,x7,x8,x9,x10,x11,x12,x13,x14,x15,x16,x17,x18,x19,x20,x21,x22,x23,x24,x25,x26,x27,x28,x29,x30,x31,x32,x33,x34,x35,x36,x37,x38,x39,x40,x41,x42,x43,x44,x45,x46,x47,x48,x49,x50,x51,x52,x53,x54,x55,x56,x57,x58,x59,x60,x61,x62,x63,x64,x65,x66,x67,x68,x69,x70,x71,x72,x73,x74,x75,x76,x77,x78,x79,x80,x81,x82,x83,x84,x85,x86,x87,x88,x89,x90,x91,x92,x93,x94,x95,x96,x97,x98,x99,x100,x101,x102,x103,x104,x105,x106,x107,x108,x109,x110,x111,x112,x113,x114,x115,x116,x117,x118,x119,x120,x121,x122,x123,x124,x125,x126,x127,x128,x129,x130,x131,x132,x133,x134,x135,x136,x137,x138,x139,x140,x141,x142,x143,x144,x145,x146,x147,x148,x149,x150,x151,x152,x153,x154,x155,x156,x157,x158,x159,x160,x161,x162,x163,x164,x165,x166,x167,x168,x169,x170,x171,x172,x173,x174,x175,x176,x177,x178,x179,x180,x181,x182,x183,x184,x185,x186,x187,x188,x189,x190,x191,x192,x193,x194,x195,x196,x197,x198,x199,x200,x201,x202,x203,x204,x205,x206,x207],defers:=[] } X:=by
 obtain ⟨i0,hi,hz0,hz1,hz2⟩:=info_parts infoTk
 have hcode':=(Option.some.inj (show some _ = some code from hcode)).symm
 conv at hcode' => rhs;whnf
 subst hcode'
 clear hcode
 have hst:=str_any hT.at'
 generalize strTk (str c r).1 = x at *
 generalize (str c r).2 = L2 at *
 go_wp2_with fail
 refine hst.mono ?_
 clear hst
 rintro e W7 ⟨rfl,k7,g7⟩
 have T7:=hT.far g7 k7
 unfold tkV
 have hz7:=T7.size
 have T8:=T7.kept (World.grownBy_alloc W7 (.cells (btCells (btOf x)).toArray 85) none)
 have hz:=T8.size
 have hcn:=cells_new (W7.alloc (.cells (btCells (btOf x)).toArray 85)) (btCells (btOf x)) 85
 rw [World.size_alloc] at hcn
 go_wp2_with (at_builtin;refine wpList_append_own _ rfl _ _ 53 rfl (w.heap.size + 1) 85 i0 (.agg #[.int .i64 0,.string ⟨#[]⟩,.int .i64 0,.bool false,.int .i64 0]) 5 48 Tryz.underlying53 hi hz0 hz1 hz2 rfl (by decide) _ _ _ rfl (World.ownsRow.alloc T8.row _) ⟨W7.heap.size + 1,0,none⟩ 1 1 (btCells (btOf x)) rfl rfl hcn (btCells_one _) (by unfold maxLen;omega) (by omega) (by simp;omega) ?_;intro v' w' hown' hgrow' hnil')
 first | exact hFin (T8.push hgrow' hown') | exact T8.push hgrow' hown'
set_option maxHeartbeats 4000000 in
theorem arm_hash {x0 x1 x2 x6 x7 x8 x9 x10 x11 x12 x13 x14 x15 x16 x17 x18 x19 x20 x21 x22 x23 x24 x25 x26 x27 x28 x29 x30 x31 x32 x33 x34 x35 x36 x37 x38 x39 x40 x41 x42 x43 x44 x45 x46 x47 x48 x49 x50 x51 x52 x53 x54 x55 x56 x57 x58 x59 x60 x61 x62 x63 x64 x65 x66 x67 x68 x69 x70 x71 x72 x73 x74 x75 x76 x77 x78 x79 x80 x81 x82 x83 x84 x85 x86 x87 x88 x89 x90 x91 x92 x93 x94 x95 x96 x97 x98 x99 x100 x101 x102 x103 x104 x105 x106 x107 x108 x109 x110 x111 x112 x113 x114 x115 x116 x117 x118 x119 x120 x121 x122 x123 x124 x125 x126 x127 x128 x129 x130 x131 x132 x133 x134 x135 x136 x137 x138 x139 x140 x141 x142 x143 x144 x145 x146 x147 x148 x149 x150 x151 x152 x153 x154 x155 x156 x157 x158 x159 x160 x161 x162 x163 x164 x165 x166 x167 x168 x169 x170 x171 x172 x173 x174 x175 x176 x177 x178 x179 x180 x181 x182 x183 x184 x185 x186 x187 x188 x189 x190 x191 x192 x193 x194 x195 x196 x197 x198 x199 x200 x201 x202 x203 x204 x205 x206 x207:Value} {w X:World} {raw r:List Int} {v:Value} {ts:List Tk} {c:Int} {code:Code} {Q:Exit → Act → World → Prop} (hcode:frag Tryz.f11 3 = some code)
  (hT:Ts w raw v ts (c :: r) X) (hb:ts.length ≤ 1000000) (hFin:∀ {y9 y123 y124 y125 y126 y127 y128 y129 y130 y131 y132 y133 y134 y135 y136 v':Value} {W':World},Ts w raw v' (ts ++ [⟨3,(name r).1,0,false,0⟩]) (name r).2 W' → Q .normal { tmps:=#[x0,x1,x2,.pointer (some ⟨w.heap.size,0,none⟩),v',.int .i64 c,x6,x7,x8,y9,x10,x11,x12,x13,x14,x15,x16,x17,x18,x19,x20,x21,x22,x23,x24,x25,x26,x27,x28,x29,x30,x31,x32,x33,x34,x35,x36,x37,x38,x39,x40,x41,x42,x43,x44,x45,x46,x47,x48,x49,x50,x51,x52,x53,x54,x55,x56,x57,x58,x59,x60,x61,x62,x63,x64,x65,x66,x67,x68,x69,x70,x71,x72,x73,x74,x75,x76,x77,x78,x79,x80,x81,x82,x83,x84,x85,x86,x87,x88,x89,x90,x91,x92,x93,x94,x95,x96,x97,x98,x99,x100,x101,x102,x103,x104,x105,x106,x107,x108,x109,x110,x111,x112,x113,x114,x115,x116,x117,x118,x119,x120,x121,x122,y123,y124,y125,y126,y127,y128,y129,y130,y131,y132,y133,y134,y135,y136,x137,x138,x139,x140,x141,x142,x143,x144,x145,x146,x147,x148,x149,x150,x151,x152,x153,x154,x155,x156,x157,x158,x159,x160,x161,x162,x163,x164,x165,x166,x167,x168,x169,x170,x171,x172,x173,x174,x175,x176,x177,x178,x179,x180,x181,x182,x183,x184,x185,x186,x187,x188,x189,x190,x191,x192,x193,x194,x195,x196,x197,x198,x199,x200,x201,x202,x203,x204,x205,x206,x207],defers:=[] } W') :
  Code.wp Tryz.prog code Q { tmps:=#[x0,x1,x2,.pointer (some ⟨w.heap.size,0,none⟩),v,.int .i64 c,x6,x7,x8,x9,x10,x11,x12,x13,x14,x15,x16,x17,x18,x19,x20,x21,x22,x23,x24,x25,x26,x27,x28,x29,x30,x31,x32,x33,x34,x35,x36,x37,x38,x39,x40,x41,x42,x43,x44,x45,x46,x47,x48,x49,x50,x51,x52,x53,x54,x55,x56,x57,x58,x59,x60,x61,x62,x63,x64,x65,x66,x67,x68,x69,x70,x71,x72,x73,x74,x75,x76,x77,x78,x79,x80,x81,x82,x83,x84,x85,x86,x87,x88,x89,x90,x91,x92,x93,x94,x95,x96,x97,x98,x99,x100,x101,x102,x103,x104,x105,x106,x107,x108,x109,x110,x111,x112,x113,x114,x115,x116,x117,x118,x119,x120,x121,x122,x123,x124,x125,x126,x127,x128,x129,x130,x131,x132,x133,x134,x135,x136,x137,x138,x139,x140,x141,x142,x143,x144,x145,x146,x147,x148,x149,x150,x151,x152,x153,x154,x155,x156,x157,x158,x159,x160,x161,x162,x163,x164,x165,x166,x167,x168,x169,x170,x171,x172,x173,x174,x175,x176,x177,x178,x179,x180,x181,x182,x183,x184,x185,x186,x187,x188,x189,x190,x191,x192,x193,x194,x195,x196,x197,x198,x199,x200,x201,x202,x203,x204,x205,x206,x207],defers:=[] } X:=by
 obtain ⟨i0,hi,hz0,hz1,hz2⟩:=info_parts infoTk
 have hcode':=(Option.some.inj (show some _ = some code from hcode)).symm
 conv at hcode' => rhs;whnf
 subst hcode'
 clear hcode
 obtain ⟨a,ca,fa,ha,hst⟩:=hT.step
 go_wp2_with fail
 have T6:=hst _ rfl
 clear hst ca fa hT
 generalize World.setCell X _ _ = W6 at *
 have hnm:=name_any T6.at'
 generalize (name r).1 = nm at *
 generalize (name r).2 = L2 at *
 go_wp2_with fail
 refine hnm.mono ?_
 clear hnm
 rintro e W7 ⟨rfl,k7,g7⟩
 have T7:=T6.far g7 k7
 have hz:=T7.size
 go_wp2_with (at_builtin;refine wpList_append_own _ rfl _ _ 53 rfl (w.heap.size + 1) 85 i0 (.agg #[.int .i64 0,.string ⟨#[]⟩,.int .i64 0,.bool false,.int .i64 0]) 5 48 Tryz.underlying53 hi hz0 hz1 hz2 rfl (by decide) _ _ _ rfl (World.ownsRow.alloc T7.row _) ⟨W7.heap.size,0,none⟩ 1 1 (btCells (btOf ⟨3,nm,0,false,0⟩)) rfl rfl (cells_new _ (btCells (btOf ⟨3,nm,0,false,0⟩)) _) (btCells_one _) (by unfold maxLen;omega) (by omega) (by simp;omega) ?_;intro v' w' hown' hgrow' hnil')
 first | exact hFin (T7.push hgrow' hown') | exact T7.push hgrow' hown'
set_option maxHeartbeats 4000000 in
theorem arm_num {x0 x1 x2 x6 x7 x8 x9 x10 x11 x12 x13 x14 x15 x16 x17 x18 x19 x20 x21 x22 x23 x24 x25 x26 x27 x28 x29 x30 x31 x32 x33 x34 x35 x36 x37 x38 x39 x40 x41 x42 x43 x44 x45 x46 x47 x48 x49 x50 x51 x52 x53 x54 x55 x56 x57 x58 x59 x60 x61 x62 x63 x64 x65 x66 x67 x68 x69 x70 x71 x72 x73 x74 x75 x76 x77 x78 x79 x80 x81 x82 x83 x84 x85 x86 x87 x88 x89 x90 x91 x92 x93 x94 x95 x96 x97 x98 x99 x100 x101 x102 x103 x104 x105 x106 x107 x108 x109 x110 x111 x112 x113 x114 x115 x116 x117 x118 x119 x120 x121 x122 x123 x124 x125 x126 x127 x128 x129 x130 x131 x132 x133 x134 x135 x136 x137 x138 x139 x140 x141 x142 x143 x144 x145 x146 x147 x148 x149 x150 x151 x152 x153 x154 x155 x156 x157 x158 x159 x160 x161 x162 x163 x164 x165 x166 x167 x168 x169 x170 x171 x172 x173 x174 x175 x176 x177 x178 x179 x180 x181 x182 x183 x184 x185 x186 x187 x188 x189 x190 x191 x192 x193 x194 x195 x196 x197 x198 x199 x200 x201 x202 x203 x204 x205 x206 x207:Value} {w X:World} {raw r:List Int} {v:Value} {ts:List Tk} {c:Int} {code:Code} {Q:Exit → Act → World → Prop} (hcode:frag Tryz.f11 4 = some code)
  (hT:Ts w raw v ts (c :: r) X) (hb:ts.length ≤ 1000000) (hFin:∀ {y10 y139 y140 y141 y142 y143 y144 v':Value} {W':World},Ts w raw v' (ts ++ [(numeric nv (c :: r)).1]) (numeric nv (c :: r)).2 W' → Q .normal { tmps:=#[x0,x1,x2,.pointer (some ⟨w.heap.size,0,none⟩),v',.int .i64 c,x6,x7,x8,x9,y10,x11,x12,x13,x14,x15,x16,x17,x18,x19,x20,x21,x22,x23,x24,x25,x26,x27,x28,x29,x30,x31,x32,x33,x34,x35,x36,x37,x38,x39,x40,x41,x42,x43,x44,x45,x46,x47,x48,x49,x50,x51,x52,x53,x54,x55,x56,x57,x58,x59,x60,x61,x62,x63,x64,x65,x66,x67,x68,x69,x70,x71,x72,x73,x74,x75,x76,x77,x78,x79,x80,x81,x82,x83,x84,x85,x86,x87,x88,x89,x90,x91,x92,x93,x94,x95,x96,x97,x98,x99,x100,x101,x102,x103,x104,x105,x106,x107,x108,x109,x110,x111,x112,x113,x114,x115,x116,x117,x118,x119,x120,x121,x122,x123,x124,x125,x126,x127,x128,x129,x130,x131,x132,x133,x134,x135,x136,x137,x138,y139,y140,y141,y142,y143,y144,x145,x146,x147,x148,x149,x150,x151,x152,x153,x154,x155,x156,x157,x158,x159,x160,x161,x162,x163,x164,x165,x166,x167,x168,x169,x170,x171,x172,x173,x174,x175,x176,x177,x178,x179,x180,x181,x182,x183,x184,x185,x186,x187,x188,x189,x190,x191,x192,x193,x194,x195,x196,x197,x198,x199,x200,x201,x202,x203,x204,x205,x206,x207],defers:=[] } W') :
  Code.wp Tryz.prog code Q { tmps:=#[x0,x1,x2,.pointer (some ⟨w.heap.size,0,none⟩),v,.int .i64 c,x6,x7,x8,x9,x10,x11,x12,x13,x14,x15,x16,x17,x18,x19,x20,x21,x22,x23,x24,x25,x26,x27,x28,x29,x30,x31,x32,x33,x34,x35,x36,x37,x38,x39,x40,x41,x42,x43,x44,x45,x46,x47,x48,x49,x50,x51,x52,x53,x54,x55,x56,x57,x58,x59,x60,x61,x62,x63,x64,x65,x66,x67,x68,x69,x70,x71,x72,x73,x74,x75,x76,x77,x78,x79,x80,x81,x82,x83,x84,x85,x86,x87,x88,x89,x90,x91,x92,x93,x94,x95,x96,x97,x98,x99,x100,x101,x102,x103,x104,x105,x106,x107,x108,x109,x110,x111,x112,x113,x114,x115,x116,x117,x118,x119,x120,x121,x122,x123,x124,x125,x126,x127,x128,x129,x130,x131,x132,x133,x134,x135,x136,x137,x138,x139,x140,x141,x142,x143,x144,x145,x146,x147,x148,x149,x150,x151,x152,x153,x154,x155,x156,x157,x158,x159,x160,x161,x162,x163,x164,x165,x166,x167,x168,x169,x170,x171,x172,x173,x174,x175,x176,x177,x178,x179,x180,x181,x182,x183,x184,x185,x186,x187,x188,x189,x190,x191,x192,x193,x194,x195,x196,x197,x198,x199,x200,x201,x202,x203,x204,x205,x206,x207],defers:=[] } X:=by
 obtain ⟨i0,hi,hz0,hz1,hz2⟩:=info_parts infoTk
 have hcode':=(Option.some.inj (show some _ = some code from hcode)).symm
 conv at hcode' => rhs;whnf
 subst hcode'
 clear hcode
 have hst:=numeric_any hT.at'
 generalize (numeric nv (c :: r)).1 = x at *
 generalize (numeric nv (c :: r)).2 = L2 at *
 go_wp2_with fail
 refine hst.mono ?_
 clear hst
 rintro e W7 ⟨rfl,k7,g7⟩
 have T7:=hT.far g7 k7
 unfold tkV
 have hz7:=T7.size
 have T8:=T7.kept (World.grownBy_alloc W7 (.cells (btCells (btOf x)).toArray 85) none)
 have hz:=T8.size
 have hcn:=cells_new (W7.alloc (.cells (btCells (btOf x)).toArray 85)) (btCells (btOf x)) 85
 rw [World.size_alloc] at hcn
 go_wp2_with (at_builtin;refine wpList_append_own _ rfl _ _ 53 rfl (w.heap.size + 1) 85 i0 (.agg #[.int .i64 0,.string ⟨#[]⟩,.int .i64 0,.bool false,.int .i64 0]) 5 48 Tryz.underlying53 hi hz0 hz1 hz2 rfl (by decide) _ _ _ rfl (World.ownsRow.alloc T8.row _) ⟨W7.heap.size + 1,0,none⟩ 1 1 (btCells (btOf x)) rfl rfl hcn (btCells_one _) (by unfold maxLen;omega) (by omega) (by simp;omega) ?_;intro v' w' hown' hgrow' hnil')
 first | exact hFin (T8.push hgrow' hown') | exact T8.push hgrow' hown'
set_option maxHeartbeats 4000000 in
theorem arm_at {x0 x1 x2 x6 x7 x8 x9 x10 x11 x12 x13 x14 x15 x16 x17 x18 x19 x20 x21 x22 x23 x24 x25 x26 x27 x28 x29 x30 x31 x32 x33 x34 x35 x36 x37 x38 x39 x40 x41 x42 x43 x44 x45 x46 x47 x48 x49 x50 x51 x52 x53 x54 x55 x56 x57 x58 x59 x60 x61 x62 x63 x64 x65 x66 x67 x68 x69 x70 x71 x72 x73 x74 x75 x76 x77 x78 x79 x80 x81 x82 x83 x84 x85 x86 x87 x88 x89 x90 x91 x92 x93 x94 x95 x96 x97 x98 x99 x100 x101 x102 x103 x104 x105 x106 x107 x108 x109 x110 x111 x112 x113 x114 x115 x116 x117 x118 x119 x120 x121 x122 x123 x124 x125 x126 x127 x128 x129 x130 x131 x132 x133 x134 x135 x136 x137 x138 x139 x140 x141 x142 x143 x144 x145 x146 x147 x148 x149 x150 x151 x152 x153 x154 x155 x156 x157 x158 x159 x160 x161 x162 x163 x164 x165 x166 x167 x168 x169 x170 x171 x172 x173 x174 x175 x176 x177 x178 x179 x180 x181 x182 x183 x184 x185 x186 x187 x188 x189 x190 x191 x192 x193 x194 x195 x196 x197 x198 x199 x200 x201 x202 x203 x204 x205 x206 x207:Value} {w X:World} {raw r:List Int} {v:Value} {ts:List Tk} {c:Int} {code:Code} {Q:Exit → Act → World → Prop} (hcode:frag Tryz.f11 5 = some code)
  (hT:Ts w raw v ts (c :: r) X) (hb:ts.length ≤ 1000000) (hFin:∀ {y11 y152 y153 y154 y155 y156 y157 y158 y159 y160 y161 y162 y163 y164 y165 v':Value} {W':World},Ts w raw v' (ts ++ [⟨2,(name r).1,0,false,0⟩]) (name r).2 W' → Q .normal { tmps:=#[x0,x1,x2,.pointer (some ⟨w.heap.size,0,none⟩),v',.int .i64 c,x6,x7,x8,x9,x10,y11,x12,x13,x14,x15,x16,x17,x18,x19,x20,x21,x22,x23,x24,x25,x26,x27,x28,x29,x30,x31,x32,x33,x34,x35,x36,x37,x38,x39,x40,x41,x42,x43,x44,x45,x46,x47,x48,x49,x50,x51,x52,x53,x54,x55,x56,x57,x58,x59,x60,x61,x62,x63,x64,x65,x66,x67,x68,x69,x70,x71,x72,x73,x74,x75,x76,x77,x78,x79,x80,x81,x82,x83,x84,x85,x86,x87,x88,x89,x90,x91,x92,x93,x94,x95,x96,x97,x98,x99,x100,x101,x102,x103,x104,x105,x106,x107,x108,x109,x110,x111,x112,x113,x114,x115,x116,x117,x118,x119,x120,x121,x122,x123,x124,x125,x126,x127,x128,x129,x130,x131,x132,x133,x134,x135,x136,x137,x138,x139,x140,x141,x142,x143,x144,x145,x146,x147,x148,x149,x150,x151,y152,y153,y154,y155,y156,y157,y158,y159,y160,y161,y162,y163,y164,y165,x166,x167,x168,x169,x170,x171,x172,x173,x174,x175,x176,x177,x178,x179,x180,x181,x182,x183,x184,x185,x186,x187,x188,x189,x190,x191,x192,x193,x194,x195,x196,x197,x198,x199,x200,x201,x202,x203,x204,x205,x206,x207],defers:=[] } W') :
  Code.wp Tryz.prog code Q { tmps:=#[x0,x1,x2,.pointer (some ⟨w.heap.size,0,none⟩),v,.int .i64 c,x6,x7,x8,x9,x10,x11,x12,x13,x14,x15,x16,x17,x18,x19,x20,x21,x22,x23,x24,x25,x26,x27,x28,x29,x30,x31,x32,x33,x34,x35,x36,x37,x38,x39,x40,x41,x42,x43,x44,x45,x46,x47,x48,x49,x50,x51,x52,x53,x54,x55,x56,x57,x58,x59,x60,x61,x62,x63,x64,x65,x66,x67,x68,x69,x70,x71,x72,x73,x74,x75,x76,x77,x78,x79,x80,x81,x82,x83,x84,x85,x86,x87,x88,x89,x90,x91,x92,x93,x94,x95,x96,x97,x98,x99,x100,x101,x102,x103,x104,x105,x106,x107,x108,x109,x110,x111,x112,x113,x114,x115,x116,x117,x118,x119,x120,x121,x122,x123,x124,x125,x126,x127,x128,x129,x130,x131,x132,x133,x134,x135,x136,x137,x138,x139,x140,x141,x142,x143,x144,x145,x146,x147,x148,x149,x150,x151,x152,x153,x154,x155,x156,x157,x158,x159,x160,x161,x162,x163,x164,x165,x166,x167,x168,x169,x170,x171,x172,x173,x174,x175,x176,x177,x178,x179,x180,x181,x182,x183,x184,x185,x186,x187,x188,x189,x190,x191,x192,x193,x194,x195,x196,x197,x198,x199,x200,x201,x202,x203,x204,x205,x206,x207],defers:=[] } X:=by
 obtain ⟨i0,hi,hz0,hz1,hz2⟩:=info_parts infoTk
 have hcode':=(Option.some.inj (show some _ = some code from hcode)).symm
 conv at hcode' => rhs;whnf
 subst hcode'
 clear hcode
 obtain ⟨a,ca,fa,ha,hst⟩:=hT.step
 go_wp2_with fail
 have T6:=hst _ rfl
 clear hst ca fa hT
 generalize World.setCell X _ _ = W6 at *
 have hnm:=name_any T6.at'
 generalize (name r).1 = nm at *
 generalize (name r).2 = L2 at *
 go_wp2_with fail
 refine hnm.mono ?_
 clear hnm
 rintro e W7 ⟨rfl,k7,g7⟩
 have T7:=T6.far g7 k7
 have hz:=T7.size
 go_wp2_with (at_builtin;refine wpList_append_own _ rfl _ _ 53 rfl (w.heap.size + 1) 85 i0 (.agg #[.int .i64 0,.string ⟨#[]⟩,.int .i64 0,.bool false,.int .i64 0]) 5 48 Tryz.underlying53 hi hz0 hz1 hz2 rfl (by decide) _ _ _ rfl (World.ownsRow.alloc T7.row _) ⟨W7.heap.size,0,none⟩ 1 1 (btCells (btOf ⟨2,nm,0,false,0⟩)) rfl rfl (cells_new _ (btCells (btOf ⟨2,nm,0,false,0⟩)) _) (btCells_one _) (by unfold maxLen;omega) (by omega) (by simp;omega) ?_;intro v' w' hown' hgrow' hnil')
 first | exact hFin (T7.push hgrow' hown') | exact T7.push hgrow' hown'
set_option maxHeartbeats 4000000 in
theorem arm_ident {x0 x1 x2 x6 x7 x8 x9 x10 x11 x12 x13 x14 x15 x16 x17 x18 x19 x20 x21 x22 x23 x24 x25 x26 x27 x28 x29 x30 x31 x32 x33 x34 x35 x36 x37 x38 x39 x40 x41 x42 x43 x44 x45 x46 x47 x48 x49 x50 x51 x52 x53 x54 x55 x56 x57 x58 x59 x60 x61 x62 x63 x64 x65 x66 x67 x68 x69 x70 x71 x72 x73 x74 x75 x76 x77 x78 x79 x80 x81 x82 x83 x84 x85 x86 x87 x88 x89 x90 x91 x92 x93 x94 x95 x96 x97 x98 x99 x100 x101 x102 x103 x104 x105 x106 x107 x108 x109 x110 x111 x112 x113 x114 x115 x116 x117 x118 x119 x120 x121 x122 x123 x124 x125 x126 x127 x128 x129 x130 x131 x132 x133 x134 x135 x136 x137 x138 x139 x140 x141 x142 x143 x144 x145 x146 x147 x148 x149 x150 x151 x152 x153 x154 x155 x156 x157 x158 x159 x160 x161 x162 x163 x164 x165 x166 x167 x168 x169 x170 x171 x172 x173 x174 x175 x176 x177 x178 x179 x180 x181 x182 x183 x184 x185 x186 x187 x188 x189 x190 x191 x192 x193 x194 x195 x196 x197 x198 x199 x200 x201 x202 x203 x204 x205 x206 x207:Value} {w X:World} {raw r:List Int} {v:Value} {ts:List Tk} {c:Int} {code:Code} {Q:Exit → Act → World → Prop} (hcode:frag Tryz.f11 6 = some code)
  (hT:Ts w raw v ts (c :: r) X) (hb:ts.length ≤ 1000000) (hFin:∀ {y12 y168 y169 y170 y171 y172 y173 y174 y175 y176 y177 y178 y179 y180 y181 y182 y183 y184 y185 y186 y187 y188 y189 v':Value} {W':World},Ts w raw v' (ts ++ [(if see (name (c :: r)).2 0 = 40 then (⟨20,(name (c :: r)).1,0,false,0⟩,(name (c :: r)).2.tail) else (⟨1,(name (c :: r)).1,0,false,0⟩,(name (c :: r)).2):Tk × List Int).1]) (if see (name (c :: r)).2 0 = 40 then (⟨20,(name (c :: r)).1,0,false,0⟩,(name (c :: r)).2.tail) else (⟨1,(name (c :: r)).1,0,false,0⟩,(name (c :: r)).2):Tk × List Int).2 W' → Q .normal { tmps:=#[x0,x1,x2,.pointer (some ⟨w.heap.size,0,none⟩),v',.int .i64 c,x6,x7,x8,x9,x10,x11,y12,x13,x14,x15,x16,x17,x18,x19,x20,x21,x22,x23,x24,x25,x26,x27,x28,x29,x30,x31,x32,x33,x34,x35,x36,x37,x38,x39,x40,x41,x42,x43,x44,x45,x46,x47,x48,x49,x50,x51,x52,x53,x54,x55,x56,x57,x58,x59,x60,x61,x62,x63,x64,x65,x66,x67,x68,x69,x70,x71,x72,x73,x74,x75,x76,x77,x78,x79,x80,x81,x82,x83,x84,x85,x86,x87,x88,x89,x90,x91,x92,x93,x94,x95,x96,x97,x98,x99,x100,x101,x102,x103,x104,x105,x106,x107,x108,x109,x110,x111,x112,x113,x114,x115,x116,x117,x118,x119,x120,x121,x122,x123,x124,x125,x126,x127,x128,x129,x130,x131,x132,x133,x134,x135,x136,x137,x138,x139,x140,x141,x142,x143,x144,x145,x146,x147,x148,x149,x150,x151,x152,x153,x154,x155,x156,x157,x158,x159,x160,x161,x162,x163,x164,x165,x166,x167,y168,y169,y170,y171,y172,y173,y174,y175,y176,y177,y178,y179,y180,y181,y182,y183,y184,y185,y186,y187,y188,y189,x190,x191,x192,x193,x194,x195,x196,x197,x198,x199,x200,x201,x202,x203,x204,x205,x206,x207],defers:=[] } W') :
  Code.wp Tryz.prog code Q { tmps:=#[x0,x1,x2,.pointer (some ⟨w.heap.size,0,none⟩),v,.int .i64 c,x6,x7,x8,x9,x10,x11,x12,x13,x14,x15,x16,x17,x18,x19,x20,x21,x22,x23,x24,x25,x26,x27,x28,x29,x30,x31,x32,x33,x34,x35,x36,x37,x38,x39,x40,x41,x42,x43,x44,x45,x46,x47,x48,x49,x50,x51,x52,x53,x54,x55,x56,x57,x58,x59,x60,x61,x62,x63,x64,x65,x66,x67,x68,x69,x70,x71,x72,x73,x74,x75,x76,x77,x78,x79,x80,x81,x82,x83,x84,x85,x86,x87,x88,x89,x90,x91,x92,x93,x94,x95,x96,x97,x98,x99,x100,x101,x102,x103,x104,x105,x106,x107,x108,x109,x110,x111,x112,x113,x114,x115,x116,x117,x118,x119,x120,x121,x122,x123,x124,x125,x126,x127,x128,x129,x130,x131,x132,x133,x134,x135,x136,x137,x138,x139,x140,x141,x142,x143,x144,x145,x146,x147,x148,x149,x150,x151,x152,x153,x154,x155,x156,x157,x158,x159,x160,x161,x162,x163,x164,x165,x166,x167,x168,x169,x170,x171,x172,x173,x174,x175,x176,x177,x178,x179,x180,x181,x182,x183,x184,x185,x186,x187,x188,x189,x190,x191,x192,x193,x194,x195,x196,x197,x198,x199,x200,x201,x202,x203,x204,x205,x206,x207],defers:=[] } X:=by
 obtain ⟨i0,hi,hz0,hz1,hz2⟩:=info_parts infoTk
 have hcode':=(Option.some.inj (show some _ = some code from hcode)).symm
 conv at hcode' => rhs;whnf
 subst hcode'
 clear hcode
 have hnm:=name_any hT.at'
 generalize (name (c :: r)).1 = nm at *
 generalize (name (c :: r)).2 = L2 at *
 go_wp2_with fail
 refine hnm.mono ?_
 clear hnm
 rintro e W7 ⟨rfl,k7,g7⟩
 have T7:=hT.far g7 k7
 clear hT
 have s7:=see0 T7.at'
 go_wp2_with fail
 refine (s7 _ (World.grownBy.refl _ _)).mono ?_
 rintro e W8 ⟨rfl,g8⟩
 by_cases hp:see L2 0 = 40
 ·obtain ⟨c2,r2,rfl⟩:∃ c2 r2,L2 = c2 :: r2:=List.exists_cons_of_ne_nil (fun e => by rw [e] at hp;exact absurd hp (by decide))
  rw [if_pos hp,show (c2 :: r2).tail = r2 from rfl] at hFin
  rw [see_zero] at hp
  subst hp
  rw [see_zero]
  clear s7
  obtain ⟨a,ca,fa,ha,hst⟩:=(T7.kept g8).step
  have T9:=hst _ rfl
  have hz:=T9.size
  rw [size_setCell'] at hz
  go_wp2_with (at_builtin;refine wpList_append_own _ rfl _ _ 53 rfl (w.heap.size + 1) 85 i0 (.agg #[.int .i64 0,.string ⟨#[]⟩,.int .i64 0,.bool false,.int .i64 0]) 5 48 Tryz.underlying53 hi hz0 hz1 hz2 rfl (by decide) _ _ _ rfl (World.ownsRow.alloc T9.row _) ⟨W8.heap.size,0,none⟩ 1 1 (btCells (btOf ⟨20,nm,0,false,0⟩)) rfl rfl (cells_new_set _ _ _ _ _) (btCells_one _) (by unfold maxLen;omega) (by omega) (by simp;omega) ?_;intro v' w' hown' hgrow' hnil')
  first | exact hFin (T9.push hgrow' hown') | exact T9.push hgrow' hown'
 ·rw [if_neg hp] at hFin
  clear s7
  generalize see L2 0 = y at *
  have hp':(y == 40) = false:=by simpa using hp
  have T9:=T7.kept g8
  have hz:=T9.size
  go_wp2_with (at_builtin;refine wpList_append_own _ rfl _ _ 53 rfl (w.heap.size + 1) 85 i0 (.agg #[.int .i64 0,.string ⟨#[]⟩,.int .i64 0,.bool false,.int .i64 0]) 5 48 Tryz.underlying53 hi hz0 hz1 hz2 rfl (by decide) _ _ _ rfl (World.ownsRow.alloc T9.row _) ⟨W8.heap.size,0,none⟩ 1 1 (btCells (btOf ⟨1,nm,0,false,0⟩)) rfl rfl (cells_new _ (btCells (btOf ⟨1,nm,0,false,0⟩)) _) (btCells_one _) (by unfold maxLen;omega) (by omega) (by simp;omega) ?_;intro v' w' hown' hgrow' hnil')
  first | exact hFin (T9.push hgrow' hown') | exact T9.push hgrow' hown'
set_option maxHeartbeats 4000000 in
theorem arm_sign {x0 x1 x2 x6 x7 x8 x9 x10 x11 x12 x13 x14 x15 x16 x17 x18 x19 x20 x21 x22 x23 x24 x25 x26 x27 x28 x29 x30 x31 x32 x33 x34 x35 x36 x37 x38 x39 x40 x41 x42 x43 x44 x45 x46 x47 x48 x49 x50 x51 x52 x53 x54 x55 x56 x57 x58 x59 x60 x61 x62 x63 x64 x65 x66 x67 x68 x69 x70 x71 x72 x73 x74 x75 x76 x77 x78 x79 x80 x81 x82 x83 x84 x85 x86 x87 x88 x89 x90 x91 x92 x93 x94 x95 x96 x97 x98 x99 x100 x101 x102 x103 x104 x105 x106 x107 x108 x109 x110 x111 x112 x113 x114 x115 x116 x117 x118 x119 x120 x121 x122 x123 x124 x125 x126 x127 x128 x129 x130 x131 x132 x133 x134 x135 x136 x137 x138 x139 x140 x141 x142 x143 x144 x145 x146 x147 x148 x149 x150 x151 x152 x153 x154 x155 x156 x157 x158 x159 x160 x161 x162 x163 x164 x165 x166 x167 x168 x169 x170 x171 x172 x173 x174 x175 x176 x177 x178 x179 x180 x181 x182 x183 x184 x185 x186 x187 x188 x189 x190 x191 x192 x193 x194 x195 x196 x197 x198 x199 x200 x201 x202 x203 x204 x205 x206 x207:Value} {w X:World} {raw r:List Int} {v:Value} {ts:List Tk} {c:Int} {code:Code} {Q:Exit → Act → World → Prop} (hcode:frag Tryz.f11 7 = some code)
  (hT:Ts w raw v ts (c :: r) X) (hb:ts.length ≤ 1000000) (hFin:∀ {y194 y195 y196 y197 y198 y199 y200 y201 y202 y203 y204 y205 y206 v':Value} {W':World},Ts w raw v' (ts ++ [⟨sign c,[],0,false,0⟩]) r W' → Q .normal { tmps:=#[x0,x1,x2,.pointer (some ⟨w.heap.size,0,none⟩),v',.int .i64 c,x6,x7,x8,x9,x10,x11,x12,x13,x14,x15,x16,x17,x18,x19,x20,x21,x22,x23,x24,x25,x26,x27,x28,x29,x30,x31,x32,x33,x34,x35,x36,x37,x38,x39,x40,x41,x42,x43,x44,x45,x46,x47,x48,x49,x50,x51,x52,x53,x54,x55,x56,x57,x58,x59,x60,x61,x62,x63,x64,x65,x66,x67,x68,x69,x70,x71,x72,x73,x74,x75,x76,x77,x78,x79,x80,x81,x82,x83,x84,x85,x86,x87,x88,x89,x90,x91,x92,x93,x94,x95,x96,x97,x98,x99,x100,x101,x102,x103,x104,x105,x106,x107,x108,x109,x110,x111,x112,x113,x114,x115,x116,x117,x118,x119,x120,x121,x122,x123,x124,x125,x126,x127,x128,x129,x130,x131,x132,x133,x134,x135,x136,x137,x138,x139,x140,x141,x142,x143,x144,x145,x146,x147,x148,x149,x150,x151,x152,x153,x154,x155,x156,x157,x158,x159,x160,x161,x162,x163,x164,x165,x166,x167,x168,x169,x170,x171,x172,x173,x174,x175,x176,x177,x178,x179,x180,x181,x182,x183,x184,x185,x186,x187,x188,x189,x190,x191,x192,x193,y194,y195,y196,y197,y198,y199,y200,y201,y202,y203,y204,y205,y206,x207],defers:=[] } W') :
  Code.wp Tryz.prog code Q { tmps:=#[x0,x1,x2,.pointer (some ⟨w.heap.size,0,none⟩),v,.int .i64 c,x6,x7,x8,x9,x10,x11,x12,x13,x14,x15,x16,x17,x18,x19,x20,x21,x22,x23,x24,x25,x26,x27,x28,x29,x30,x31,x32,x33,x34,x35,x36,x37,x38,x39,x40,x41,x42,x43,x44,x45,x46,x47,x48,x49,x50,x51,x52,x53,x54,x55,x56,x57,x58,x59,x60,x61,x62,x63,x64,x65,x66,x67,x68,x69,x70,x71,x72,x73,x74,x75,x76,x77,x78,x79,x80,x81,x82,x83,x84,x85,x86,x87,x88,x89,x90,x91,x92,x93,x94,x95,x96,x97,x98,x99,x100,x101,x102,x103,x104,x105,x106,x107,x108,x109,x110,x111,x112,x113,x114,x115,x116,x117,x118,x119,x120,x121,x122,x123,x124,x125,x126,x127,x128,x129,x130,x131,x132,x133,x134,x135,x136,x137,x138,x139,x140,x141,x142,x143,x144,x145,x146,x147,x148,x149,x150,x151,x152,x153,x154,x155,x156,x157,x158,x159,x160,x161,x162,x163,x164,x165,x166,x167,x168,x169,x170,x171,x172,x173,x174,x175,x176,x177,x178,x179,x180,x181,x182,x183,x184,x185,x186,x187,x188,x189,x190,x191,x192,x193,x194,x195,x196,x197,x198,x199,x200,x201,x202,x203,x204,x205,x206,x207],defers:=[] } X:=by
 obtain ⟨i0,hi,hz0,hz1,hz2⟩:=info_parts infoTk
 have hcode':=(Option.some.inj (show some _ = some code from hcode)).symm
 conv at hcode' => rhs;whnf
 subst hcode'
 clear hcode
 have sg:=sign_any c
 generalize sign c = S at *
 obtain ⟨a,ca,fa,ha,hst⟩:=hT.step
 go_wp2_with fail
 have T6:=hst _ rfl
 clear hst ca fa hT
 generalize World.setCell X _ _ = W6 at *
 refine (sg _).mono ?_
 rintro e W6 ⟨rfl,rfl⟩
 have hz:=T6.size
 go_wp2_with (at_builtin;refine wpList_append_own _ rfl _ _ 53 rfl (w.heap.size + 1) 85 i0 (.agg #[.int .i64 0,.string ⟨#[]⟩,.int .i64 0,.bool false,.int .i64 0]) 5 48 Tryz.underlying53 hi hz0 hz1 hz2 rfl (by decide) _ _ _ rfl (World.ownsRow.alloc T6.row _) ⟨W6.heap.size,0,none⟩ 1 1 (btCells (btOf ⟨S,[],0,false,0⟩)) rfl rfl (cells_new _ (btCells (btOf ⟨S,[],0,false,0⟩)) _) (btCells_one _) (by unfold maxLen;omega) (by omega) (by simp;omega) ?_;intro v' w' hown' hgrow' hnil')
 first | exact hFin (T6.push hgrow' hown') | exact T6.push hgrow' hown'
set_option maxHeartbeats 4000000 in
theorem arm_delim {x0 x1 x2 x6 x7 x8 x9 x10 x11 x12 x13 x14 x15 x16 x17 x18 x19 x20 x21 x22 x23 x24 x25 x26 x27 x28 x29 x30 x31 x32 x33 x34 x35 x36 x37 x38 x39 x40 x41 x42 x43 x44 x45 x46 x47 x48 x49 x50 x51 x52 x53 x54 x55 x56 x57 x58 x59 x60 x61 x62 x63 x64 x65 x66 x67 x68 x69 x70 x71 x72 x73 x74 x75 x76 x77 x78 x79 x80 x81 x82 x83 x84 x85 x86 x87 x88 x89 x90 x91 x92 x93 x94 x95 x96 x97 x98 x99 x100 x101 x102 x103 x104 x105 x106 x107 x108 x109 x110 x111 x112 x113 x114 x115 x116 x117 x118 x119 x120 x121 x122 x123 x124 x125 x126 x127 x128 x129 x130 x131 x132 x133 x134 x135 x136 x137 x138 x139 x140 x141 x142 x143 x144 x145 x146 x147 x148 x149 x150 x151 x152 x153 x154 x155 x156 x157 x158 x159 x160 x161 x162 x163 x164 x165 x166 x167 x168 x169 x170 x171 x172 x173 x174 x175 x176 x177 x178 x179 x180 x181 x182 x183 x184 x185 x186 x187 x188 x189 x190 x191 x192 x193 x194 x195 x196 x197 x198 x199 x200 x201 x202 x203 x204 x205 x206 x207:Value} {w X:World} {raw r:List Int} {v:Value} {ts:List Tk} {c:Int} {code:Code} {Q:Exit → Act → World → Prop} (hcode:frag Tryz.f11 8 = some code)
  (hT:Ts w raw v ts (c :: r) X) (hb:ts.length ≤ 1000000) (hFin:∀ {y25 y26 y27 y28 y29 y30 y31 y32 y33 y34 y35 y36 v':Value} {W':World},Ts w raw v' (ts ++ [⟨10,[],0,false,c⟩]) r W' → Q .normal { tmps:=#[x0,x1,x2,.pointer (some ⟨w.heap.size,0,none⟩),v',.int .i64 c,x6,x7,x8,x9,x10,x11,x12,x13,x14,x15,x16,x17,x18,x19,x20,x21,x22,x23,x24,y25,y26,y27,y28,y29,y30,y31,y32,y33,y34,y35,y36,x37,x38,x39,x40,x41,x42,x43,x44,x45,x46,x47,x48,x49,x50,x51,x52,x53,x54,x55,x56,x57,x58,x59,x60,x61,x62,x63,x64,x65,x66,x67,x68,x69,x70,x71,x72,x73,x74,x75,x76,x77,x78,x79,x80,x81,x82,x83,x84,x85,x86,x87,x88,x89,x90,x91,x92,x93,x94,x95,x96,x97,x98,x99,x100,x101,x102,x103,x104,x105,x106,x107,x108,x109,x110,x111,x112,x113,x114,x115,x116,x117,x118,x119,x120,x121,x122,x123,x124,x125,x126,x127,x128,x129,x130,x131,x132,x133,x134,x135,x136,x137,x138,x139,x140,x141,x142,x143,x144,x145,x146,x147,x148,x149,x150,x151,x152,x153,x154,x155,x156,x157,x158,x159,x160,x161,x162,x163,x164,x165,x166,x167,x168,x169,x170,x171,x172,x173,x174,x175,x176,x177,x178,x179,x180,x181,x182,x183,x184,x185,x186,x187,x188,x189,x190,x191,x192,x193,x194,x195,x196,x197,x198,x199,x200,x201,x202,x203,x204,x205,x206,x207],defers:=[] } W') :
  Code.wp Tryz.prog code Q { tmps:=#[x0,x1,x2,.pointer (some ⟨w.heap.size,0,none⟩),v,.int .i64 c,x6,x7,x8,x9,x10,x11,x12,x13,x14,x15,x16,x17,x18,x19,x20,x21,x22,x23,x24,x25,x26,x27,x28,x29,x30,x31,x32,x33,x34,x35,x36,x37,x38,x39,x40,x41,x42,x43,x44,x45,x46,x47,x48,x49,x50,x51,x52,x53,x54,x55,x56,x57,x58,x59,x60,x61,x62,x63,x64,x65,x66,x67,x68,x69,x70,x71,x72,x73,x74,x75,x76,x77,x78,x79,x80,x81,x82,x83,x84,x85,x86,x87,x88,x89,x90,x91,x92,x93,x94,x95,x96,x97,x98,x99,x100,x101,x102,x103,x104,x105,x106,x107,x108,x109,x110,x111,x112,x113,x114,x115,x116,x117,x118,x119,x120,x121,x122,x123,x124,x125,x126,x127,x128,x129,x130,x131,x132,x133,x134,x135,x136,x137,x138,x139,x140,x141,x142,x143,x144,x145,x146,x147,x148,x149,x150,x151,x152,x153,x154,x155,x156,x157,x158,x159,x160,x161,x162,x163,x164,x165,x166,x167,x168,x169,x170,x171,x172,x173,x174,x175,x176,x177,x178,x179,x180,x181,x182,x183,x184,x185,x186,x187,x188,x189,x190,x191,x192,x193,x194,x195,x196,x197,x198,x199,x200,x201,x202,x203,x204,x205,x206,x207],defers:=[] } X:=by
 obtain ⟨i0,hi,hz0,hz1,hz2⟩:=info_parts infoTk
 have hcode':=(Option.some.inj (show some _ = some code from hcode)).symm
 conv at hcode' => rhs;whnf
 subst hcode'
 clear hcode
 obtain ⟨a,ca,fa,ha,hst⟩:=hT.step
 have T9:=hst _ rfl
 have hz:=T9.size
 rw [size_setCell'] at hz
 go_wp2_with (at_builtin;refine wpList_append_own _ rfl _ _ 53 rfl (w.heap.size + 1) 85 i0 (.agg #[.int .i64 0,.string ⟨#[]⟩,.int .i64 0,.bool false,.int .i64 0]) 5 48 Tryz.underlying53 hi hz0 hz1 hz2 rfl (by decide) _ _ _ rfl (World.ownsRow.alloc T9.row _) ⟨X.heap.size,0,none⟩ 1 1 (btCells (btOf ⟨10,[],0,false,c⟩)) rfl rfl (cells_new_set _ _ _ _ _) (btCells_one _) (by unfold maxLen;omega) (by omega) (by simp;omega) ?_;intro v' w' hown' hgrow' hnil')
 first | exact hFin (T9.push hgrow' hown') | exact T9.push hgrow' hown'
end Go.Proofs.YtcmmdojlhfmddaaGreat.Ref

/- The document's own Tokens: the tests behind those for comments, white and strings. -/
set_option maxRecDepth 100000
namespace Go.Proofs.YtcmmdojlhfmddaaGreat.Ref
open Go Go.RowKit Go.Shelf
set_option maxHeartbeats 8000000 in
theorem rest_any {x0 x1 x2 x8 x9 x10 x11 x12 x13 x14 x15 x16 x17 x18 x19 x20 x21 x22 x23 x24 x25 x26 x27 x28 x29 x30 x31 x32 x33 x34 x35 x36 x37 x38 x39 x40 x41 x42 x43 x44 x45 x46 x47 x48 x49 x50 x51 x52 x53 x54 x55 x56 x57 x58 x59 x60 x61 x62 x63 x64 x65 x66 x67 x68 x69 x70 x71 x72 x73 x74 x75 x76 x77 x78 x79 x80 x81 x82 x83 x84 x85 x86 x87 x88 x89 x90 x91 x92 x93 x94 x95 x96 x97 x98 x99 x100 x101 x102 x103 x104 x105 x106 x107 x108 x109 x110 x111 x112 x113 x114 x115 x116 x117 x118 x119 x120 x121 x122 x123 x124 x125 x126 x127 x128 x129 x130 x131 x132 x133 x134 x135 x136 x137 x138 x139 x140 x141 x142 x143 x144 x145 x146 x147 x148 x149 x150 x151 x152 x153 x154 x155 x156 x157 x158 x159 x160 x161 x162 x163 x164 x165 x166 x167 x168 x169 x170 x171 x172 x173 x174 x175 x176 x177 x178 x179 x180 x181 x182 x183 x184 x185 x186 x187 x188 x189 x190 x191 x192 x193 x194 x195 x196 x197 x198 x199 x200 x201 x202 x203 x204 x205 x206 x207:Value} {w X:World} {raw r:List Int} {v:Value} {ts:List Tk} {c:Int} {code:Code} {Q:Exit → Act → World → Prop} (hcode:fragE Tryz.f11 = some code)
  (hT:Ts w raw v ts (c :: r) X) (hbound:ts.length ≤ 1000000) (h1:¬ (c = 47 ∧ see r 0 = 42)) (hwf:isWhite c = false) (hq:¬ (c = 34 ∨ c = 39))
  (hFin:Hid (∀ {y9 y10 y11 y12 y25 y26 y27 y28 y29 y30 y31 y32 y33 y34 y35 y36 y111 y112 y113 y114 y115 y116 y117 y118 y119 y120 y121 y122 y123 y124 y125 y126 y127 y128 y129 y130 y131 y132 y133 y134 y135 y136 y137 y138 y139 y140 y141 y142 y143 y144 y145 y146 y147 y148 y149 y150 y151 y152 y153 y154 y155 y156 y157 y158 y159 y160 y161 y162 y163 y164 y165 y166 y167 y168 y169 y170 y171 y172 y173 y174 y175 y176 y177 y178 y179 y180 y181 y182 y183 y184 y185 y186 y187 y188 y189 y190 y191 y192 y193 y194 y195 y196 y197 y198 y199 y200 y201 y202 y203 y204 y205 y206 v':Value} {W':World} {x:Tk} {L':List Int},step nv (c :: r) = (some x,L') → Ts w raw v' (ts ++ [x]) L' W' → Q .normal { tmps:=#[x0,x1,x2,.pointer (some ⟨w.heap.size,0,none⟩),v',.int .i64 c,.bool (begNum (c :: r)),.bool (begName (c :: r)),x8,y9,y10,y11,y12,x13,x14,x15,x16,x17,x18,x19,x20,x21,x22,x23,x24,y25,y26,y27,y28,y29,y30,y31,y32,y33,y34,y35,y36,x37,x38,x39,x40,x41,x42,x43,x44,x45,x46,x47,x48,x49,x50,x51,x52,x53,x54,x55,x56,x57,x58,x59,x60,x61,x62,x63,x64,x65,x66,x67,x68,x69,x70,x71,x72,x73,x74,x75,x76,x77,x78,x79,x80,x81,x82,x83,x84,x85,x86,x87,x88,x89,x90,x91,x92,x93,x94,x95,x96,x97,x98,x99,x100,x101,x102,x103,x104,x105,x106,x107,x108,x109,x110,y111,y112,y113,y114,y115,y116,y117,y118,y119,y120,y121,y122,y123,y124,y125,y126,y127,y128,y129,y130,y131,y132,y133,y134,y135,y136,y137,y138,y139,y140,y141,y142,y143,y144,y145,y146,y147,y148,y149,y150,y151,y152,y153,y154,y155,y156,y157,y158,y159,y160,y161,y162,y163,y164,y165,y166,y167,y168,y169,y170,y171,y172,y173,y174,y175,y176,y177,y178,y179,y180,y181,y182,y183,y184,y185,y186,y187,y188,y189,y190,y191,y192,y193,y194,y195,y196,y197,y198,y199,y200,y201,y202,y203,y204,y205,y206,x207],defers:=[] } W')) :
  Code.wp Tryz.prog code Q { tmps:=#[x0,x1,x2,.pointer (some ⟨w.heap.size,0,none⟩),v,.int .i64 c,.bool (begNum (c :: r)),.bool (begName (c :: r)),x8,x9,x10,x11,x12,x13,x14,x15,x16,x17,x18,x19,x20,x21,x22,x23,x24,x25,x26,x27,x28,x29,x30,x31,x32,x33,x34,x35,x36,x37,x38,x39,x40,x41,x42,x43,x44,x45,x46,x47,x48,x49,x50,x51,x52,x53,x54,x55,x56,x57,x58,x59,x60,x61,x62,x63,x64,x65,x66,x67,x68,x69,x70,x71,x72,x73,x74,x75,x76,x77,x78,x79,x80,x81,x82,x83,x84,x85,x86,x87,x88,x89,x90,x91,x92,x93,x94,x95,x96,x97,x98,x99,x100,x101,x102,x103,x104,x105,x106,x107,x108,x109,x110,x111,x112,x113,x114,x115,x116,x117,x118,x119,x120,x121,x122,x123,x124,x125,x126,x127,x128,x129,x130,x131,x132,x133,x134,x135,x136,x137,x138,x139,x140,x141,x142,x143,x144,x145,x146,x147,x148,x149,x150,x151,x152,x153,x154,x155,x156,x157,x158,x159,x160,x161,x162,x163,x164,x165,x166,x167,x168,x169,x170,x171,x172,x173,x174,x175,x176,x177,x178,x179,x180,x181,x182,x183,x184,x185,x186,x187,x188,x189,x190,x191,x192,x193,x194,x195,x196,x197,x198,x199,x200,x201,x202,x203,x204,x205,x206,x207],defers:=[] } X:=by
 have hcode':=(Option.some.inj (show some _ = some code from hcode)).symm
 conv at hcode' => rhs;whnf
 subst hcode'
 clear hcode
 have g0:X.grownBy X none:=World.grownBy.refl _ _
 have s1:=see1 hT.at'
 have b1:=beg1 hT.at'
 have e1:=esc1 hT.at'
 have sg:=sign_any c
 have np:=namePoint_any (see r 0)
 rw [see_succ] at s1
 rw [show (c :: r).tail = r from rfl] at b1 e1
 by_cases h35:c = 35
 ·subst h35
  have nf1:begNum (35 :: r) = false:=by
   cases e:begNum (35 :: r) with
   | false => rfl
   | true => have:=begNum_first e;omega
  have nf2:begName (35 :: r) = false:=by
   cases e:begName (35 :: r) with
   | false => rfl
   | true => have:=begName_first e;omega
  have hs1:(namePt (see r 0) || escAt r) = true → step nv (35 :: r) = (some ⟨3,(name r).1,0,false,0⟩,(name r).2):=fun hh => by
   unfold step
   rw [see_zero,see_succ,if_neg h1,hwf,if_neg (by decide),if_neg hq,List.tail_cons,if_pos ⟨rfl,hh⟩]
  have hs2:(namePt (see r 0) || escAt r) = false → step nv (35 :: r) = (some ⟨10,[],0,false,35⟩,r):=fun hh => by
   unfold step
   rw [see_zero,see_succ,if_neg h1,hwf,if_neg (by decide),if_neg hq,List.tail_cons,hh,if_neg (fun e => by cases e.2),nf1,if_neg (by decide),if_neg (fun e => absurd e.1 (by decide)),nf2,if_neg (by decide),if_neg (by decide)]
  rw [nf1,nf2]
  rw [nf1,nf2] at hFin
  rw [show sign 35 = 0 by decide] at sg
  clear b1 h1 hq hwf nf1 nf2
  go_wp2_with fail
  refine (s1 _ g0).mono ?_
  rintro e W1 ⟨rfl,g1⟩
  go_wp2_with fail
  refine (np _).mono ?_
  rintro e W1 ⟨rfl,rfl⟩
  cases hn:namePt (see r 0) with
  | true =>
   have hs:=hs1 (by rw [hn];rfl)
   clear hs1 hs2 np e1 hn
   go_upto_if 111 with fail
   refine wp_cond_true (by first | rfl | (simp;done) | (simp;assumption)) ?_
   refine arm_hash rfl (hT.kept g1) hbound ?_
   intros
   rename_i T'
   exact (show _ from hFin) hs T'
  | false =>
   go_wp2_with fail
   refine (e1 _ g1).mono ?_
   rintro e W2 ⟨rfl,g2⟩
   cases hn2:escAt r with
   | true =>
    have hs:=hs1 (by rw [hn,hn2];rfl)
    clear hs1 hs2 np e1 hn hn2
    go_upto_if 111 with fail
    refine wp_cond_true (by first | rfl | (simp;done) | (simp;assumption)) ?_
    refine arm_hash rfl (hT.kept g2) hbound ?_
    intros
    rename_i T'
    exact (show _ from hFin) hs T'
   | false =>
    have hs:=hs2 (by rw [hn,hn2];rfl)
    clear hs1 hs2 np e1 hn hn2
    go_wp2_with fail
    refine (sg _).mono ?_
    rintro e W2 ⟨rfl,rfl⟩
    go_upto_if 190 with fail
    refine wp_cond_false (by first | rfl | (simp;done) | (simp;assumption)) ?_
    refine arm_delim rfl (hT.kept g2) hbound ?_
    intros
    rename_i T'
    exact (show _ from hFin) hs T'
 have h35':(c == 35) = false:=by simpa using h35
 have hh:¬ (c = 35 ∧ (namePt (see r 0) || escAt r) = true):=fun e => h35 e.1
 clear h35 np e1 s1
 cases hnf:begNum (c :: r) with
 | true =>
  have hs:step nv (c :: r) = (some (numeric nv (c :: r)).1,(numeric nv (c :: r)).2):=by
   unfold step
   rw [see_zero,see_succ,if_neg h1,hwf,if_neg (by decide),if_neg hq,List.tail_cons,if_neg hh,if_pos hnf]
  rw [hnf] at hFin
  clear b1 sg h1 hq hh hnf hwf
  go_upto_if 137 with fail
  refine wp_cond_true (by first | rfl | (simp;done) | (simp;assumption)) ?_
  refine arm_num rfl (hT.kept g0) hbound ?_
  intros
  rename_i T'
  exact (show _ from hFin) hs T'
 | false =>
  rw [hnf] at hFin
  by_cases h64:c = 64
  ·subst h64
   have nf2:begName (64 :: r) = false:=by
    cases e:begName (64 :: r) with
    | false => rfl
    | true => have:=begName_first e;omega
   have hs1:begName r = true → step nv (64 :: r) = (some ⟨2,(name r).1,0,false,0⟩,(name r).2):=fun ht => by
    unfold step
    rw [see_zero,see_succ,if_neg h1,hwf,if_neg (by decide),if_neg hq,List.tail_cons,if_neg hh,hnf,if_neg (by decide),if_pos ⟨rfl,ht⟩]
   have hs2:begName r = false → step nv (64 :: r) = (some ⟨10,[],0,false,64⟩,r):=fun ht => by
    unfold step
    rw [see_zero,see_succ,if_neg h1,hwf,if_neg (by decide),if_neg hq,List.tail_cons,if_neg hh,hnf,if_neg (by decide),ht,if_neg (fun e => by cases e.2),nf2,if_neg (by decide),if_neg (by decide)]
   rw [nf2]
   rw [nf2] at hFin
   rw [show sign 64 = 0 by decide] at sg
   clear h1 hq hwf hh nf2 hnf
   go_wp2_with fail
   refine (b1 _ g0).mono ?_
   rintro e W1 ⟨rfl,g1⟩
   cases ht:begName r with
   | true =>
    have hs:=hs1 ht
    clear hs1 hs2 ht b1
    go_upto_if 145 with fail
    refine wp_cond_true (by first | rfl | (simp;done) | (simp;assumption)) ?_
    refine arm_at rfl (hT.kept g1) hbound ?_
    intros
    rename_i T'
    exact (show _ from hFin) hs T'
   | false =>
    have hs:=hs2 ht
    clear hs1 hs2 ht b1
    go_wp2_with fail
    refine (sg _).mono ?_
    rintro e W1 ⟨rfl,rfl⟩
    go_upto_if 190 with fail
    refine wp_cond_false (by first | rfl | (simp;done) | (simp;assumption)) ?_
    refine arm_delim rfl (hT.kept g1) hbound ?_
    intros
    rename_i T'
    exact (show _ from hFin) hs T'
  have h64':(c == 64) = false:=by simpa using h64
  have ht:¬ (c = 64 ∧ begName r = true):=fun e => h64 e.1
  clear h64 b1
  cases hbf:begName (c :: r) with
  | true =>
   have hs:step nv (c :: r) = (some (if see (name (c :: r)).2 0 = 40 then (⟨20,(name (c :: r)).1,0,false,0⟩,(name (c :: r)).2.tail) else (⟨1,(name (c :: r)).1,0,false,0⟩,(name (c :: r)).2):Tk × List Int).1,(if see (name (c :: r)).2 0 = 40 then (⟨20,(name (c :: r)).1,0,false,0⟩,(name (c :: r)).2.tail) else (⟨1,(name (c :: r)).1,0,false,0⟩,(name (c :: r)).2):Tk × List Int).2):=by
    unfold step
    rw [see_zero,see_succ,if_neg h1,hwf,if_neg (by decide),if_neg hq,List.tail_cons,if_neg hh,hnf,if_neg (by decide),if_neg ht,if_pos hbf]
    by_cases hp:see (name (c :: r)).2 0 = 40
    ·rw [if_pos hp,if_pos hp]
    ·rw [if_neg hp,if_neg hp]
   rw [hbf] at hFin
   clear sg h1 hq hh ht hwf hnf hbf
   go_upto_if 166 with fail
   refine wp_cond_true (by first | rfl | (simp;done) | (simp;assumption)) ?_
   refine arm_ident rfl (hT.kept g0) hbound ?_
   intros
   rename_i T'
   exact (show _ from hFin) hs T'
  | false =>
   have hs1:0 < sign c → step nv (c :: r) = (some ⟨sign c,[],0,false,0⟩,r):=fun hg => by
    unfold step
    rw [see_zero,see_succ,if_neg h1,hwf,if_neg (by decide),if_neg hq,List.tail_cons,if_neg hh,hnf,if_neg (by decide),if_neg ht,hbf,if_neg (by decide),if_pos hg]
   have hs2:sign c = 0 → step nv (c :: r) = (some ⟨10,[],0,false,c⟩,r):=fun hg => by
    unfold step
    rw [see_zero,see_succ,if_neg h1,hwf,if_neg (by decide),if_neg hq,List.tail_cons,if_neg hh,hnf,if_neg (by decide),if_neg ht,hbf,if_neg (by decide),if_neg (by omega)]
   have hge:=sign_ge c
   rw [hbf] at hFin
   clear h1 hq hh ht hwf hnf hbf
   go_wp2_with fail
   refine (sg _).mono ?_
   rintro e W0 ⟨rfl,rfl⟩
   by_cases hg:0 < sign c
   ·have hs:=hs1 hg
    clear hs1 hs2
    go_upto_if 190 with fail
    refine wp_cond_true (by first | rfl | (simp;done) | (simp;assumption)) ?_
    refine arm_sign rfl (hT.kept g0) hbound ?_
    intros
    rename_i T'
    exact (show _ from hFin) hs T'
   ·have hg0:sign c = 0:=by omega
    have hs:=hs2 hg0
    rw [hg0]
    clear hs1 hs2 hg hge hg0 sg
    go_upto_if 190 with fail
    refine wp_cond_false (by first | rfl | (simp;done) | (simp;assumption)) ?_
    refine arm_delim rfl (hT.kept g0) hbound ?_
    intros
    rename_i T'
    exact (show _ from hFin) hs T'
end Go.Proofs.YtcmmdojlhfmddaaGreat.Ref

/- The document's own Tokens, at every slice of code points that is not too long. -/
set_option maxRecDepth 100000
namespace Go.Proofs.YtcmmdojlhfmddaaGreat.Ref
open Go Go.RowKit Go.Shelf
set_option maxHeartbeats 8000000 in
theorem tokens_any (v0:Value) (raw:List Int) (w:World) (hI:IntsAt w.heap.size w v0 raw) (hlen:raw.length ≤ 1000000) :
  Calls Tryz.prog 11 #[v0] w fun e w' => ∃ v',e = .returned v' ∧ w'.ownsRow w.heap.size 85 5 v' (toks nv (raw.map fixC)).length (btsCells ((toks nv (raw.map fixC)).map btOf)) ∧ Below w.heap.size w w':=by
 obtain ⟨i0,hi,hz0,hz1,hz2⟩:=info_parts infoTk
 obtain ⟨A,hA⟩:∃ A,toks nv (raw.map fixC) = A:=⟨_,rfl⟩
 have hall:A.length ≤ 1000000:=by
  have:=toks_le nv (raw.map fixC)
  rw [List.length_map] at this
  rw [← hA]
  omega
 have hb1:Below w.heap.size w (w.alloc (.cells #[v0,.int .i64 0] 82)):=(Below.refl _ w).alloc (Nat.le_refl _) _
 have hT0:Ts w raw (.slice none 0 0) [] (raw.map fixC) (w.alloc (.cells #[v0,.int .i64 0] 82)):=
  ⟨World.ownsRow_nil _ _ _ _,⟨v0,0,⟨heap_alloc_new w _,hI.below hb1,Nat.le_refl _,by omega,hlen⟩,by simp⟩,hb1,by simp⟩
 obtain ⟨p,cap,rfl⟩:=hI.len
 rw [hA]
 go_enter Tryz.func11,Tryz.ntmps11
 go_wp2_with fail
 clear hI hb1
 generalize World.alloc w _ = w0 at *
 go_loopw [4] (fun o wr => ∃ v ts l,v = o ∧ Ts w raw v ts l wr ∧ ts ++ toks nv l = A ∧ ts.length ≤ 1000000) (fun _ wr => lenOf raw wr w.heap.size)
 case atStart => exact ⟨_,[],raw.map fixC,rfl,hT0,by simpa using hA,by simp⟩
 case round =>
  clear hT0 hA
  obtain ⟨v,ts,l,rfl,hT,e',hbound⟩:=hrel
  have X:=wr
  obtain ⟨X,hX⟩:∃ X,X = wr:=⟨_,rfl⟩
  subst hX
  have hm:=hT.at'.lenOf
  have g0:X.grownBy X none:=World.grownBy.refl _ _
  have s0:=see0 hT.at'
  have s1:=see1 hT.at'
  have nb:=number_any hT.at'
  have b0:=beg0 hT.at'
  cases l with
  | cons c r =>
   have hc0:0 ≤ c:=hT.at'.mem (List.mem_cons_self ..)
   have wh:=white_any c
   rw [see_zero] at s0
   rw [see_succ] at s1
   go_wp2_with fail
   refine (s0 _ g0).mono ?_
   rintro e W1 ⟨rfl,g1⟩
   go_wp2_with fail
   refine (s0 _ g1).mono ?_
   rintro e W2 ⟨rfl,g2⟩
   go_wp2_with fail
   refine (nb _ g2).mono ?_
   rintro e W3 ⟨rfl,g3⟩
   go_wp2_with fail
   refine (b0 _ g3).mono ?_
   rintro e W4 ⟨rfl,g4⟩
   have hsl:=step_len nv c r
   by_cases h47:c = 47
   ·subst h47
    go_wp2_with fail
    refine (s1 _ g4).mono ?_
    rintro e W5 ⟨rfl,g5⟩
    by_cases h42:see r 0 = 42
    ·
     obtain ⟨d,r2,rfl⟩:∃ d r2,r = d :: r2:=List.exists_cons_of_ne_nil (fun e => by rw [e] at h42;exact absurd h42 (by decide))
     rw [see_zero] at h42
     subst h42
     rw [see_zero]
     have hs:step nv (47 :: 42 :: r2) = (none,skipC r2):=by unfold step;rw [if_pos ⟨rfl,rfl⟩];rfl
     clear wh
     rw [hs] at hsl
     have e2:=fin_none hs e'
     clear e' hs
     go_upto_if 37 with fail
     refine wp_cond_true (by first | rfl | (simp;done) | (simp;assumption)) ?_
     refine arm_comment rfl (hT.kept g5) hbound ?_
     intros
     rename_i T'
     have hm':=T'.at'.lenOf
     go_wp2
     exact ⟨⟨_,_,_,rfl,T',e2,hbound⟩,by rw [hm,hm'];exact Nat.lt_succ_of_le hsl⟩
    ·
     rw [show isWhite 47 = false by decide] at wh
     have hx':(see r 0 == 42) = false:=by simpa using h42
     go_wp2_with fail
     refine (wh _).mono ?_
     rintro e W5 ⟨rfl,rfl⟩
     go_upto_if 98 with fail
     refine wp_cond_false (by first | rfl | (simp;done) | (simp;assumption)) ?_
     refine rest_any rfl (hT.kept g5) hbound (fun e => h42 e.2) (by decide) (by decide) ?_
     delta Hid
     intros
     rename_i hs T'
     have hm':=T'.at'.lenOf
     rw [hs] at hsl
     have e2:=fin_some hs e'
     clear e' hs
     go_wp2
     exact ⟨⟨_,_,_,rfl,T',e2,fin_len e2 hall⟩,by rw [hm,hm'];exact Nat.lt_succ_of_le hsl⟩
   have h47':(c == 47) = false:=by simpa using h47
   have h1:¬ (c = 47 ∧ see r 0 = 42):=fun e => h47 e.1
   clear h47
   go_wp2_with fail
   refine (wh _).mono ?_
   rintro e W4 ⟨rfl,rfl⟩
   by_cases hw:isWhite c = true
   ·
    have hs:step nv (c :: r) = (some ⟨9,[],0,false,0⟩,(c :: r).dropWhile isWhite):=by
     unfold step
     rw [see_zero,see_succ,if_neg h1,if_pos hw]
    rw [hw]
    clear h1 hw s1 s0 nb b0 wh
    rw [hs] at hsl
    have e2:=fin_some hs e'
    clear e' hs
    go_upto_if 81 with fail
    refine wp_cond_true (by first | rfl | (simp;done) | (simp;assumption)) ?_
    refine arm_white rfl (hT.kept g4) hbound ?_
    intros
    rename_i T'
    have hm':=T'.at'.lenOf
    go_wp2
    exact ⟨⟨_,_,_,rfl,T',e2,fin_len e2 hall⟩,by rw [hm,hm'];exact Nat.lt_succ_of_le hsl⟩
   have hwf:isWhite c = false:=by simpa using hw
   rw [hwf]
   clear hw wh
   by_cases hq:c = 34 ∨ c = 39
   ·
    have hs:step nv (c :: r) = (some (strTk (str c r).1),(str c r).2):=by
     unfold step
     rw [see_zero,see_succ,if_neg h1,hwf,if_neg (by decide),if_pos hq]
     cases e:(str c r).1 <;> simp [strTk,e]
    clear h1 s1 hwf
    rcases hq with rfl | rfl
    ·
     rw [hs] at hsl
     have e2:=fin_some hs e'
     clear e' hs
     go_upto_if 98 with fail
     refine wp_cond_true (by first | rfl | (simp;done) | (simp;assumption)) ?_
     refine arm_str rfl (hT.kept g4) hbound ?_
     intros
     rename_i T'
     have hm':=T'.at'.lenOf
     go_wp2
     exact ⟨⟨_,_,_,rfl,T',e2,fin_len e2 hall⟩,by rw [hm,hm'];exact Nat.lt_succ_of_le hsl⟩
    ·
     rw [hs] at hsl
     have e2:=fin_some hs e'
     clear e' hs
     go_upto_if 98 with fail
     refine wp_cond_true (by first | rfl | (simp;done) | (simp;assumption)) ?_
     refine arm_str rfl (hT.kept g4) hbound ?_
     intros
     rename_i T'
     have hm':=T'.at'.lenOf
     go_wp2
     exact ⟨⟨_,_,_,rfl,T',e2,fin_len e2 hall⟩,by rw [hm,hm'];exact Nat.lt_succ_of_le hsl⟩
   have h34':(c == 34) = false:=by simp;omega
   have h39':(c == 39) = false:=by simp;omega
   go_upto_if 98 with fail
   refine wp_cond_false (by first | rfl | (simp;done) | (simp;assumption)) ?_
   refine rest_any rfl (hT.kept g4) hbound h1 hwf hq ?_
   delta Hid
   intros
   rename_i hs T'
   have hm':=T'.at'.lenOf
   rw [hs] at hsl
   have e2:=fin_some hs e'
   clear e' hs
   go_wp2
   exact ⟨⟨_,_,_,rfl,T',e2,fin_len e2 hall⟩,by rw [hm,hm'];exact Nat.lt_succ_of_le hsl⟩
  | nil =>
   rw [see_nil] at s0
   have e2:ts = A:=by rw [← e',toks_nil,List.append_nil]
   subst e2
   clear e' nb b0 s1
   go_wp2_with fail
   refine (s0 _ g0).mono ?_
   rintro e W1 ⟨rfl,g1⟩
   have T1:=hT.kept g1
   go_wp2
   go_ret
   exact ⟨_,rfl,owns_base T1.row (by omega),T1.below⟩
end Go.Proofs.YtcmmdojlhfmddaaGreat.Ref
