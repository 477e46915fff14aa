/-
  WordRing: the region of one operator over another one, by facts: each operation once.
-/
import Derived.Test.YtldcekejbnhloaaDoorWrdR
import Derived.Test.YtldcekejbnhloaaDoorLexF
set_option linter.unusedVariables false
namespace Go.Proofs.YtldcekejbnhloaaDoor.Words
open Go.RowKit Go.Lib Ops
open Go.RowKit (Below)

/-- What each operation leaves: a value, or a slice of two numbers. -/
def factOf (T : List (Value ⊕ (Nat × Nat))) (j : Nat) (v : Value) (w : World) : Prop :=
  match T[j]? with
  | some (.inl u) => v = u
  | some (.inr (m, n)) => ∃ g, v = .slice (some ⟨g, 0, none⟩) 2 2 ∧ NumsR w (some ⟨g, 0, none⟩) [m, n]
  | none => True
theorem factOf.stays {T : List (Value ⊕ (Nat × Nat))} {j : Nat} {v : Value} {w w' : World} (hr : ∀ q l, NumsR w q l → NumsR w' q l) (h : factOf T j v w) : factOf T j v w' := by
  unfold factOf at h ⊢
  generalize T[j]? = q at h ⊢
  cases q with
  | none => trivial
  | some s =>
    cases s with
    | inl u => exact h
    | inr m => obtain ⟨m, n⟩ := m; obtain ⟨g, h1, h2⟩ := h; exact ⟨g, h1, hr _ _ h2⟩
def ringF (p rb i x y z a b P V Q9 R : Nat) : Nat → Value → World → Prop := factOf [.inl (.pointer (some ⟨p, 0, none⟩)), .inl (.slice (some ⟨rb, 0, none⟩) 4 4), .inl (.int .i64 (i : Int)), .inl (.pointer (some ⟨rb, i * 2, none⟩)), .inl (.pointer (some ⟨rb, i * 2, none⟩)), .inl (.int .u8 (a : Int)), .inl (.int .u64 (x : Int)), .inl (.pointer (some ⟨p, 0, none⟩)), .inl (.slice (some ⟨rb, 0, none⟩) 4 4), .inl (.int .i64 (i : Int)), .inl (.pointer (some ⟨rb, i * 2, none⟩)), .inl (.pointer (some ⟨rb, i * 2 + 1, none⟩)), .inl (.int .u8 (b : Int)), .inl (.int .u64 (y : Int)), .inl (.int .u64 (z : Int)), .inr (y, z), .inl (.int .u64 (P : Int)), .inr (x, P), .inl (.int .u64 (V : Int)), .inl (.pointer (some ⟨p, 0, none⟩)), .inl (.slice (some ⟨rb, 0, none⟩) 4 4), .inl (.int .i64 (i : Int)), .inl (.pointer (some ⟨rb, i * 2, none⟩)), .inl (.pointer (some ⟨rb, i * 2 + 1, none⟩)), .inl (.int .u8 (b : Int)), .inl (.pointer (some ⟨p, 0, none⟩)), .inl (.slice (some ⟨rb, 0, none⟩) 4 4), .inl (.int .i64 (i : Int)), .inl (.pointer (some ⟨rb, i * 2, none⟩)), .inl (.pointer (some ⟨rb, i * 2, none⟩)), .inl (.int .u8 (a : Int)), .inl (.int .u64 (x : Int)), .inl (.int .u64 (y : Int)), .inr (x, y), .inl (.int .u64 (Q9 : Int)), .inl (.pointer (some ⟨p, 0, none⟩)), .inl (.slice (some ⟨rb, 0, none⟩) 4 4), .inl (.int .i64 (i : Int)), .inl (.pointer (some ⟨rb, i * 2, none⟩)), .inl (.pointer (some ⟨rb, i * 2, none⟩)), .inl (.int .u8 (a : Int)), .inl (.int .u64 (x : Int)), .inl (.int .u64 (z : Int)), .inr (x, z), .inl (.int .u64 (R : Int)), .inr (Q9, R), .inl (.int .u64 (V : Int)), .inl (.bool false)]

set_option maxRecDepth 200000 in
set_option maxHeartbeats 64000000 in
theorem ring_over {Q : Exit → Act → World → Prop} {wb wo : World} {p rb i : Nat} {x y z a b P V Q9 R : Nat} (HB : Hid (Below wb.heap.size wb wo)) (hi1 : (i : Int) < 4) (hi0 : (0 : Int) ≤ (i : Int))
    (ci : Hid (∀ W', Hid (Below wb.heap.size wb W') → W'.cell? ⟨rb, i * 2, none⟩ = some (.int .u8 (a : Int)) ∧ W'.cell? ⟨rb, i * 2 + 1, none⟩ = some (.int .u8 (b : Int)) ∧ Hid (Below wb.heap.size wb W')))
    (A1 : Hid (∀ W' g, Hid (Below wb.heap.size wb W') → NumsR W' (some ⟨g, 0, none⟩) [y, z] → Calls Tryd.prog 25 #[.pointer (some ⟨p, 0, none⟩), .int .u8 (b : Int), .slice (some ⟨g, 0, none⟩) 2 2] W' fun e w' => e = .returned (.int .u64 (P : Int)) ∧ Hid (Below wb.heap.size wb w') ∧ Step W' w'))
    (A2 : Hid (∀ W' g, Hid (Below wb.heap.size wb W') → NumsR W' (some ⟨g, 0, none⟩) [x, P] → Calls Tryd.prog 25 #[.pointer (some ⟨p, 0, none⟩), .int .u8 (a : Int), .slice (some ⟨g, 0, none⟩) 2 2] W' fun e w' => e = .returned (.int .u64 (V : Int)) ∧ Hid (Below wb.heap.size wb w') ∧ Step W' w'))
    (A3 : Hid (∀ W' g, Hid (Below wb.heap.size wb W') → NumsR W' (some ⟨g, 0, none⟩) [x, y] → Calls Tryd.prog 25 #[.pointer (some ⟨p, 0, none⟩), .int .u8 (a : Int), .slice (some ⟨g, 0, none⟩) 2 2] W' fun e w' => e = .returned (.int .u64 (Q9 : Int)) ∧ Hid (Below wb.heap.size wb w') ∧ Step W' w'))
    (A4 : Hid (∀ W' g, Hid (Below wb.heap.size wb W') → NumsR W' (some ⟨g, 0, none⟩) [x, z] → Calls Tryd.prog 25 #[.pointer (some ⟨p, 0, none⟩), .int .u8 (a : Int), .slice (some ⟨g, 0, none⟩) 2 2] W' fun e w' => e = .returned (.int .u64 (R : Int)) ∧ Hid (Below wb.heap.size wb w') ∧ Step W' w'))
    (A5 : Hid (∀ W' g, Hid (Below wb.heap.size wb W') → NumsR W' (some ⟨g, 0, none⟩) [Q9, R] → Calls Tryd.prog 25 #[.pointer (some ⟨p, 0, none⟩), .int .u8 (b : Int), .slice (some ⟨g, 0, none⟩) 2 2] W' fun e w' => e = .returned (.int .u64 (V : Int)) ∧ Hid (Below wb.heap.size wb w') ∧ Step W' w'))
    (x0 x4 x5 x6 x7 x8 x10 x11 x12 x15 x16 x17 x18 x19 x20 x21 x22 x23 x24 x25 x26 x27 x28 x29 x30 x31 x32 x33 x34 x35 x36 x37 x38 x39 x40 x41 x42 x43 x44 x45 x46 x47 x48 x49 x50 x51 x52 x53 x54 x55 x56 x57 x58 x59 x60 x61 x62 x63 x64 x65 x66 x67 x68 x69 x70 x71 x72 x73 x74 x75 x76 x77 x78 x79 x80 x81 x82 x83 x84 x85 x86 x87 x88 x89 x90 x91 x92 x93 x94 x95 x96 x97 x98 x99 x100 x101 x102 x103 x104 x105 x106 x107 x108 x109 x110 x111 x112 x113 x114 x115 x116 x117 x118 x119 x120 x121 x122 x123 x124 x125 x126 x127 x128 x129 x130 x131 x132 x133 x134 x135 x136 x137 x138 x139 x140 x141 x142 x143 x144 x145 x146 x147 x148 x149 x150 x151 x152 x153 x154 x155 x156 x157 x158 x159 x160 x161 x162 x163 x164 x165 x166 x167 x168 x169 x170 x171 x172 x173 x174 x175 x176 x177 x178 x179 x180 x181 x182 : Value)
    (hQ : ∀ (y92 y93 y94 y95 y96 y97 y98 y99 y100 y101 y102 y103 y104 y105 y106 y107 y108 y109 y110 y111 y112 y113 y114 y115 y116 y117 y118 y119 y120 y121 y122 y123 y124 y125 y126 y127 y128 y129 y130 y131 y132 y133 y134 y135 y136 y137 y138 : Value) (w' : World), Hid (Below wb.heap.size wb w') → Q .normal ⟨#[x0, .int .u64 (x : Int), .int .u64 (y : Int), .int .u64 (z : Int), x4, x5, x6, x7, x8, .pointer (some ⟨p, 0, none⟩), x10, x11, x12, .slice (some ⟨rb, 0, none⟩) 4 4, .int .i64 (i : Int), x15, x16, x17, x18, x19, x20, x21, x22, x23, x24, x25, x26, x27, x28, x29, x30, x31, x32, x33, x34, x35, x36, x37, x38, x39, x40, x41, x42, x43, x44, x45, x46, x47, x48, x49, x50, x51, x52, x53, x54, x55, x56, x57, x58, x59, x60, x61, x62, x63, x64, x65, x66, x67, x68, x69, x70, x71, x72, x73, x74, x75, x76, x77, x78, x79, x80, x81, x82, x83, x84, x85, x86, x87, x88, x89, x90, x91, y92, y93, y94, y95, y96, y97, y98, y99, y100, y101, y102, y103, y104, y105, y106, y107, y108, y109, y110, y111, y112, y113, y114, y115, y116, y117, y118, y119, y120, y121, y122, y123, y124, y125, y126, y127, y128, y129, y130, y131, y132, y133, y134, y135, y136, y137, y138, .bool false, x140, x141, x142, x143, x144, x145, x146, x147, x148, x149, x150, x151, x152, x153, x154, x155, x156, x157, x158, x159, x160, x161, x162, x163, x164, x165, x166, x167, x168, x169, x170, x171, x172, x173, x174, x175, x176, x177, x178, x179, x180, x181, x182], []⟩ w') :
    (Code.region 17 (List.toArray ({ dst := some 92, op := Op.move (Operand.tmp 9), type := 40, pos := "outright.go:48", after := #[], guard := none } :: { dst := some 93, op := Op.move (Operand.tmp 13), type := 45, pos := "outright.go:48", after := #[], guard := none } :: { dst := some 94, op := Op.move (Operand.tmp 14), type := 3, pos := "outright.go:48", after := #[], guard := none } :: { dst := some 95, op := Op.indexAddr 45 (Operand.tmp 93) (Operand.tmp 94), type := 0, pos := "outright.go:48", after := #[{ on := 1, ground := Ground.data }, { on := 2, ground := Ground.data }], guard := none } :: { dst := some 96, op := Op.indexAddr 44 (Operand.tmp 95) (Operand.const (Value.int IntKind.i64 0)), type := 0, pos := "outright.go:48", after := #[{ on := 3, ground := Ground.data }], guard := none } :: { dst := some 97, op := Op.load 5 (Operand.tmp 96), type := 5, pos := "outright.go:48", after := #[{ on := 4, ground := Ground.data }], guard := none } :: { dst := some 98, op := Op.move (Operand.tmp 1), type := 24, pos := "outright.go:48", after := #[], guard := none } :: { dst := some 99, op := Op.move (Operand.tmp 9), type := 40, pos := "outright.go:48", after := #[], guard := none } :: { dst := some 100, op := Op.move (Operand.tmp 13), type := 45, pos := "outright.go:48", after := #[], guard := none } :: { dst := some 101, op := Op.move (Operand.tmp 14), type := 3, pos := "outright.go:48", after := #[], guard := none } :: { dst := some 102, op := Op.indexAddr 45 (Operand.tmp 100) (Operand.tmp 101), type := 0, pos := "outright.go:48", after := #[{ on := 8, ground := Ground.data }, { on := 9, ground := Ground.data }], guard := none } :: { dst := some 103, op := Op.indexAddr 44 (Operand.tmp 102) (Operand.const (Value.int IntKind.i64 1)), type := 0, pos := "outright.go:48", after := #[{ on := 10, ground := Ground.data }], guard := none } :: { dst := some 104, op := Op.load 5 (Operand.tmp 103), type := 5, pos := "outright.go:48", after := #[{ on := 11, ground := Ground.data }], guard := none } :: { dst := some 105, op := Op.move (Operand.tmp 2), type := 24, pos := "outright.go:48", after := #[], guard := none } :: { dst := some 106, op := Op.move (Operand.tmp 3), type := 24, pos := "outright.go:48", after := #[], guard := none } :: { dst := some 107, op := Op.buildSlice 22 2 #[(0, Operand.tmp 105), (1, Operand.tmp 106)], type := 22, pos := "outright.go:48", after := #[{ on := 13, ground := Ground.data }, { on := 14, ground := Ground.data }], guard := none } :: { dst := some 108, op := Op.call { callee := Callee.value (Operand.func 25), args := #[Operand.tmp 99, Operand.tmp 104, Operand.tmp 107], argTypes := #[40, 5, 22] }, type := 24, pos := "outright.go:48", after := #[{ on := 7, ground := Ground.data }, { on := 12, ground := Ground.data }, { on := 15, ground := Ground.data }], guard := none } :: { dst := some 109, op := Op.buildSlice 22 2 #[(0, Operand.tmp 98), (1, Operand.tmp 108)], type := 22, pos := "outright.go:48", after := #[{ on := 6, ground := Ground.data }, { on := 16, ground := Ground.data }], guard := none } :: { dst := some 110, op := Op.call { callee := Callee.value (Operand.func 25), args := #[Operand.tmp 92, Operand.tmp 97, Operand.tmp 109], argTypes := #[40, 5, 22] }, type := 24, pos := "outright.go:48", after := #[{ on := 0, ground := Ground.data }, { on := 5, ground := Ground.data }, { on := 17, ground := Ground.data }, { on := 16, ground := Ground.chain }], guard := none } :: { dst := some 111, op := Op.move (Operand.tmp 9), type := 40, pos := "outright.go:48", after := #[], guard := none } :: { dst := some 112, op := Op.move (Operand.tmp 13), type := 45, pos := "outright.go:48", after := #[], guard := none } :: { dst := some 113, op := Op.move (Operand.tmp 14), type := 3, pos := "outright.go:48", after := #[], guard := none } :: { dst := some 114, op := Op.indexAddr 45 (Operand.tmp 112) (Operand.tmp 113), type := 0, pos := "outright.go:48", after := #[{ on := 20, ground := Ground.data }, { on := 21, ground := Ground.data }], guard := none } :: { dst := some 115, op := Op.indexAddr 44 (Operand.tmp 114) (Operand.const (Value.int IntKind.i64 1)), type := 0, pos := "outright.go:48", after := #[{ on := 22, ground := Ground.data }], guard := none } :: { dst := some 116, op := Op.load 5 (Operand.tmp 115), type := 5, pos := "outright.go:48", after := #[{ on := 23, ground := Ground.data }], guard := none } :: { dst := some 117, op := Op.move (Operand.tmp 9), type := 40, pos := "outright.go:48", after := #[], guard := none } :: { dst := some 118, op := Op.move (Operand.tmp 13), type := 45, pos := "outright.go:48", after := #[], guard := none } :: { dst := some 119, op := Op.move (Operand.tmp 14), type := 3, pos := "outright.go:48", after := #[], guard := none } :: { dst := some 120, op := Op.indexAddr 45 (Operand.tmp 118) (Operand.tmp 119), type := 0, pos := "outright.go:48", after := #[{ on := 26, ground := Ground.data }, { on := 27, ground := Ground.data }], guard := none } :: { dst := some 121, op := Op.indexAddr 44 (Operand.tmp 120) (Operand.const (Value.int IntKind.i64 0)), type := 0, pos := "outright.go:48", after := #[{ on := 28, ground := Ground.data }], guard := none } :: { dst := some 122, op := Op.load 5 (Operand.tmp 121), type := 5, pos := "outright.go:48", after := #[{ on := 29, ground := Ground.data }], guard := none } :: { dst := some 123, op := Op.move (Operand.tmp 1), type := 24, pos := "outright.go:48", after := #[], guard := none } :: { dst := some 124, op := Op.move (Operand.tmp 2), type := 24, pos := "outright.go:48", after := #[], guard := none } :: { dst := some 125, op := Op.buildSlice 22 2 #[(0, Operand.tmp 123), (1, Operand.tmp 124)], type := 22, pos := "outright.go:48", after := #[{ on := 31, ground := Ground.data }, { on := 32, ground := Ground.data }], guard := none } :: { dst := some 126, op := Op.call { callee := Callee.value (Operand.func 25), args := #[Operand.tmp 117, Operand.tmp 122, Operand.tmp 125], argTypes := #[40, 5, 22] }, type := 24, pos := "outright.go:48", after := #[{ on := 25, ground := Ground.data }, { on := 30, ground := Ground.data }, { on := 33, ground := Ground.data }, { on := 18, ground := Ground.chain }], guard := none } :: { dst := some 127, op := Op.move (Operand.tmp 9), type := 40, pos := "outright.go:48", after := #[], guard := none } :: { dst := some 128, op := Op.move (Operand.tmp 13), type := 45, pos := "outright.go:48", after := #[], guard := none } :: { dst := some 129, op := Op.move (Operand.tmp 14), type := 3, pos := "outright.go:48", after := #[], guard := none } :: { dst := some 130, op := Op.indexAddr 45 (Operand.tmp 128) (Operand.tmp 129), type := 0, pos := "outright.go:48", after := #[{ on := 36, ground := Ground.data }, { on := 37, ground := Ground.data }], guard := none } :: { dst := some 131, op := Op.indexAddr 44 (Operand.tmp 130) (Operand.const (Value.int IntKind.i64 0)), type := 0, pos := "outright.go:48", after := #[{ on := 38, ground := Ground.data }], guard := none } :: { dst := some 132, op := Op.load 5 (Operand.tmp 131), type := 5, pos := "outright.go:48", after := #[{ on := 39, ground := Ground.data }], guard := none } :: { dst := some 133, op := Op.move (Operand.tmp 1), type := 24, pos := "outright.go:48", after := #[], guard := none } :: { dst := some 134, op := Op.move (Operand.tmp 3), type := 24, pos := "outright.go:48", after := #[], guard := none } :: { dst := some 135, op := Op.buildSlice 22 2 #[(0, Operand.tmp 133), (1, Operand.tmp 134)], type := 22, pos := "outright.go:48", after := #[{ on := 41, ground := Ground.data }, { on := 42, ground := Ground.data }], guard := none } :: { dst := some 136, op := Op.call { callee := Callee.value (Operand.func 25), args := #[Operand.tmp 127, Operand.tmp 132, Operand.tmp 135], argTypes := #[40, 5, 22] }, type := 24, pos := "outright.go:48", after := #[{ on := 35, ground := Ground.data }, { on := 40, ground := Ground.data }, { on := 43, ground := Ground.data }, { on := 34, ground := Ground.chain }], guard := none } :: { dst := some 137, op := Op.buildSlice 22 2 #[(0, Operand.tmp 126), (1, Operand.tmp 136)], type := 22, pos := "outright.go:48", after := #[{ on := 34, ground := Ground.data }, { on := 44, ground := Ground.data }], guard := none } :: { dst := some 138, op := Op.call { callee := Callee.value (Operand.func 25), args := #[Operand.tmp 111, Operand.tmp 116, Operand.tmp 137], argTypes := #[40, 5, 22] }, type := 24, pos := "outright.go:48", after := #[{ on := 19, ground := Ground.data }, { on := 24, ground := Ground.data }, { on := 45, ground := Ground.data }, { on := 44, ground := Ground.chain }], guard := none } :: { dst := some 139, op := Op.binOp BinOp.neq 24 (Operand.tmp 110) (Operand.tmp 138) 24, type := 4, pos := "outright.go:48", after := #[{ on := 18, ground := Ground.data }, { on := 46, ground := Ground.data }], guard := none } :: List.nil)) true).wp Tryd.prog Q ⟨#[x0, .int .u64 (x : Int), .int .u64 (y : Int), .int .u64 (z : Int), x4, x5, x6, x7, x8, .pointer (some ⟨p, 0, none⟩), x10, x11, x12, .slice (some ⟨rb, 0, none⟩) 4 4, .int .i64 (i : Int), x15, x16, x17, x18, x19, x20, x21, x22, x23, x24, x25, x26, x27, x28, x29, x30, x31, x32, x33, x34, x35, x36, x37, x38, x39, x40, x41, x42, x43, x44, x45, x46, x47, x48, x49, x50, x51, x52, x53, x54, x55, x56, x57, x58, x59, x60, x61, x62, x63, x64, x65, x66, x67, x68, x69, x70, x71, x72, x73, x74, x75, x76, x77, x78, x79, x80, x81, x82, x83, x84, x85, x86, x87, x88, x89, x90, x91, x92, x93, x94, x95, x96, x97, x98, x99, x100, x101, x102, x103, x104, x105, x106, x107, x108, x109, x110, x111, x112, x113, x114, x115, x116, x117, x118, x119, x120, x121, x122, x123, x124, x125, x126, x127, x128, x129, x130, x131, x132, x133, x134, x135, x136, x137, x138, x139, x140, x141, x142, x143, x144, x145, x146, x147, x148, x149, x150, x151, x152, x153, x154, x155, x156, x157, x158, x159, x160, x161, x162, x163, x164, x165, x166, x167, x168, x169, x170, x171, x172, x173, x174, x175, x176, x177, x178, x179, x180, x181, x182], []⟩ wo := by
  have HQ := Lib.hid hQ
  have hi9 : i < 4 := by omega
  clear hQ
  refine LexF.wp_region_each (ringF p rb i x y z a b P V Q9 R) (fun W => Hid (Below wb.heap.size wb W)) (fun W W' => ∀ q l, NumsR W q l → NumsR W' q l) 183 [92, 93, 94, 95, 96, 97, 98, 99, 100, 101, 102, 103, 104, 105, 106, 107, 108, 109, 110, 111, 112, 113, 114, 115, 116, 117, 118, 119, 120, 121, 122, 123, 124, 125, 126, 127, 128, 129, 130, 131, 132, 133, 134, 135, 136, 137, 138, 139] (by kernel_rfl) rfl (by kernel_rfl) (by kernel_rfl) HB.out.drew ?_ ?_ ?_
  · exact fun j v w w' hr hF => factOf.stays hr hF
  · refine LexF.Each.cons (k' := 1) rfl ?_ ?_
    · intro ev W hS hc hf hk hd K hK
      have e1 : ev (.tmp 9) = .pointer (some ⟨p, 0, none⟩) := hk.out 9 (by decide)
      clear hk hd ci HQ
      unfold LexF.DoesR
      go_simp
      exact hK.out _ _ rfl hS.out (fun _ _ h => h)
    refine LexF.Each.cons (k' := 2) rfl ?_ ?_
    · intro ev W hS hc hf hk hd K hK
      have e1 : ev (.tmp 13) = .slice (some ⟨rb, 0, none⟩) 4 4 := hk.out 13 (by decide)
      clear hk hd ci HQ
      unfold LexF.DoesR
      go_simp
      exact hK.out _ _ rfl hS.out (fun _ _ h => h)
    refine LexF.Each.cons (k' := 3) rfl ?_ ?_
    · intro ev W hS hc hf hk hd K hK
      have e1 : ev (.tmp 14) = .int .i64 (i : Int) := hk.out 14 (by decide)
      clear hk hd ci HQ
      unfold LexF.DoesR
      go_simp
      exact hK.out _ _ rfl hS.out (fun _ _ h => h)
    refine LexF.Each.cons (k' := 4) rfl ?_ ?_
    · intro ev W hS hc hf hk hd K hK
      have e1 : ev (.tmp 93) = .slice (some ⟨rb, 0, none⟩) 4 4 := hd.out 1 93 (by kernel_rfl)
      have e2 : ev (.tmp 94) = .int .i64 (i : Int) := hd.out 2 94 (by kernel_rfl)
      clear hk hd ci HQ
      unfold LexF.DoesR
      go_simp
      exact hK.out _ _ rfl hS.out (fun _ _ h => h)
    refine LexF.Each.cons (k' := 5) rfl ?_ ?_
    · intro ev W hS hc hf hk hd K hK
      have e1 : ev (.tmp 95) = .pointer (some ⟨rb, i * 2, none⟩) := hd.out 3 95 (by kernel_rfl)
      clear hk hd ci HQ
      unfold LexF.DoesR
      go_simp
      exact hK.out _ _ rfl hS.out (fun _ _ h => h)
    refine LexF.Each.cons (k' := 6) rfl ?_ ?_
    · intro ev W hS hc hf hk hd K hK
      have e1 : ev (.tmp 96) = .pointer (some ⟨rb, i * 2, none⟩) := hd.out 4 96 (by kernel_rfl)
      obtain ⟨c1, c2, _⟩ := ci.out W hS.out
      clear hk hd ci HQ
      unfold LexF.DoesR
      go_simp
      exact hK.out _ _ rfl hS.out (fun _ _ h => h)
    refine LexF.Each.cons (k' := 7) rfl ?_ ?_
    · intro ev W hS hc hf hk hd K hK
      have e1 : ev (.tmp 1) = .int .u64 (x : Int) := hk.out 1 (by decide)
      clear hk hd ci HQ
      unfold LexF.DoesR
      go_simp
      exact hK.out _ _ rfl hS.out (fun _ _ h => h)
    refine LexF.Each.cons (k' := 8) rfl ?_ ?_
    · intro ev W hS hc hf hk hd K hK
      have e1 : ev (.tmp 9) = .pointer (some ⟨p, 0, none⟩) := hk.out 9 (by decide)
      clear hk hd ci HQ
      unfold LexF.DoesR
      go_simp
      exact hK.out _ _ rfl hS.out (fun _ _ h => h)
    refine LexF.Each.cons (k' := 9) rfl ?_ ?_
    · intro ev W hS hc hf hk hd K hK
      have e1 : ev (.tmp 13) = .slice (some ⟨rb, 0, none⟩) 4 4 := hk.out 13 (by decide)
      clear hk hd ci HQ
      unfold LexF.DoesR
      go_simp
      exact hK.out _ _ rfl hS.out (fun _ _ h => h)
    refine LexF.Each.cons (k' := 10) rfl ?_ ?_
    · intro ev W hS hc hf hk hd K hK
      have e1 : ev (.tmp 14) = .int .i64 (i : Int) := hk.out 14 (by decide)
      clear hk hd ci HQ
      unfold LexF.DoesR
      go_simp
      exact hK.out _ _ rfl hS.out (fun _ _ h => h)
    refine LexF.Each.cons (k' := 11) rfl ?_ ?_
    · intro ev W hS hc hf hk hd K hK
      have e1 : ev (.tmp 100) = .slice (some ⟨rb, 0, none⟩) 4 4 := hd.out 8 100 (by kernel_rfl)
      have e2 : ev (.tmp 101) = .int .i64 (i : Int) := hd.out 9 101 (by kernel_rfl)
      clear hk hd ci HQ
      unfold LexF.DoesR
      go_simp
      exact hK.out _ _ rfl hS.out (fun _ _ h => h)
    refine LexF.Each.cons (k' := 12) rfl ?_ ?_
    · intro ev W hS hc hf hk hd K hK
      have e1 : ev (.tmp 102) = .pointer (some ⟨rb, i * 2, none⟩) := hd.out 10 102 (by kernel_rfl)
      clear hk hd ci HQ
      unfold LexF.DoesR
      go_simp
      exact hK.out _ _ rfl hS.out (fun _ _ h => h)
    refine LexF.Each.cons (k' := 13) rfl ?_ ?_
    · intro ev W hS hc hf hk hd K hK
      have e1 : ev (.tmp 103) = .pointer (some ⟨rb, i * 2 + 1, none⟩) := hd.out 11 103 (by kernel_rfl)
      obtain ⟨c1, c2, _⟩ := ci.out W hS.out
      clear hk hd ci HQ
      unfold LexF.DoesR
      go_simp
      exact hK.out _ _ rfl hS.out (fun _ _ h => h)
    refine LexF.Each.cons (k' := 14) rfl ?_ ?_
    · intro ev W hS hc hf hk hd K hK
      have e1 : ev (.tmp 2) = .int .u64 (y : Int) := hk.out 2 (by decide)
      clear hk hd ci HQ
      unfold LexF.DoesR
      go_simp
      exact hK.out _ _ rfl hS.out (fun _ _ h => h)
    refine LexF.Each.cons (k' := 15) rfl ?_ ?_
    · intro ev W hS hc hf hk hd K hK
      have e1 : ev (.tmp 3) = .int .u64 (z : Int) := hk.out 3 (by decide)
      clear hk hd ci HQ
      unfold LexF.DoesR
      go_simp
      exact hK.out _ _ rfl hS.out (fun _ _ h => h)
    refine LexF.Each.cons (k' := 16) rfl ?_ ?_
    · intro ev W hS hc hf hk hd K hK
      have e1 : ev (.tmp 105) = .int .u64 (y : Int) := hd.out 13 105 (by kernel_rfl)
      have e2 : ev (.tmp 106) = .int .u64 (z : Int) := hd.out 14 106 (by kernel_rfl)
      clear hk hd ci HQ
      unfold LexF.DoesR
      go_simp
      exact hK.out _ _ ⟨_, rfl, NumsR.lit _ _ _ _ (by first | rfl | (simp; done)) (by first | rfl | (simp; done))⟩ (hS.out.out.alloc hS.out.out.size _) (fun q l h => NumsR.more h _)
    refine LexF.Each.cons (k' := 17) rfl ?_ ?_
    · intro ev W hS hc hf hk hd K hK
      have e1 : ev (.tmp 99) = .pointer (some ⟨p, 0, none⟩) := hd.out 7 99 (by kernel_rfl)
      have e2 : ev (.tmp 104) = .int .u8 (b : Int) := hd.out 12 104 (by kernel_rfl)
      obtain ⟨g, e3, hn⟩ : ∃ g, ev (.tmp 107) = .slice (some ⟨g, 0, none⟩) 2 2 ∧ NumsR W (some ⟨g, 0, none⟩) [y, z] := hd.out 15 107 (by kernel_rfl)
      have HN := Lib.hid hn
      clear hn
      clear hk hd ci HQ
      unfold LexF.DoesR
      go_simp
      refine (A1.out W g hS.out HN.out).mono ?_
      rintro e w' ⟨rfl, hb, hs⟩
      exact ⟨_, rfl, hK.out _ _ rfl hb (fun q l h => NumsR.step hs h)⟩
    refine LexF.Each.cons (k' := 18) rfl ?_ ?_
    · intro ev W hS hc hf hk hd K hK
      have e1 : ev (.tmp 98) = .int .u64 (x : Int) := hd.out 6 98 (by kernel_rfl)
      have e2 : ev (.tmp 108) = .int .u64 (P : Int) := hd.out 16 108 (by kernel_rfl)
      clear hk hd ci HQ
      unfold LexF.DoesR
      go_simp
      exact hK.out _ _ ⟨_, rfl, NumsR.lit _ _ _ _ (by first | rfl | (simp; done)) (by first | rfl | (simp; done))⟩ (hS.out.out.alloc hS.out.out.size _) (fun q l h => NumsR.more h _)
    refine LexF.Each.cons (k' := 19) rfl ?_ ?_
    · intro ev W hS hc hf hk hd K hK
      have e1 : ev (.tmp 92) = .pointer (some ⟨p, 0, none⟩) := hd.out 0 92 (by kernel_rfl)
      have e2 : ev (.tmp 97) = .int .u8 (a : Int) := hd.out 5 97 (by kernel_rfl)
      obtain ⟨g, e3, hn⟩ : ∃ g, ev (.tmp 109) = .slice (some ⟨g, 0, none⟩) 2 2 ∧ NumsR W (some ⟨g, 0, none⟩) [x, P] := hd.out 17 109 (by kernel_rfl)
      have HN := Lib.hid hn
      clear hn
      clear hk hd ci HQ
      unfold LexF.DoesR
      go_simp
      refine (A2.out W g hS.out HN.out).mono ?_
      rintro e w' ⟨rfl, hb, hs⟩
      exact ⟨_, rfl, hK.out _ _ rfl hb (fun q l h => NumsR.step hs h)⟩
    refine LexF.Each.cons (k' := 20) rfl ?_ ?_
    · intro ev W hS hc hf hk hd K hK
      have e1 : ev (.tmp 9) = .pointer (some ⟨p, 0, none⟩) := hk.out 9 (by decide)
      clear hk hd ci HQ
      unfold LexF.DoesR
      go_simp
      exact hK.out _ _ rfl hS.out (fun _ _ h => h)
    refine LexF.Each.cons (k' := 21) rfl ?_ ?_
    · intro ev W hS hc hf hk hd K hK
      have e1 : ev (.tmp 13) = .slice (some ⟨rb, 0, none⟩) 4 4 := hk.out 13 (by decide)
      clear hk hd ci HQ
      unfold LexF.DoesR
      go_simp
      exact hK.out _ _ rfl hS.out (fun _ _ h => h)
    refine LexF.Each.cons (k' := 22) rfl ?_ ?_
    · intro ev W hS hc hf hk hd K hK
      have e1 : ev (.tmp 14) = .int .i64 (i : Int) := hk.out 14 (by decide)
      clear hk hd ci HQ
      unfold LexF.DoesR
      go_simp
      exact hK.out _ _ rfl hS.out (fun _ _ h => h)
    refine LexF.Each.cons (k' := 23) rfl ?_ ?_
    · intro ev W hS hc hf hk hd K hK
      have e1 : ev (.tmp 112) = .slice (some ⟨rb, 0, none⟩) 4 4 := hd.out 20 112 (by kernel_rfl)
      have e2 : ev (.tmp 113) = .int .i64 (i : Int) := hd.out 21 113 (by kernel_rfl)
      clear hk hd ci HQ
      unfold LexF.DoesR
      go_simp
      exact hK.out _ _ rfl hS.out (fun _ _ h => h)
    refine LexF.Each.cons (k' := 24) rfl ?_ ?_
    · intro ev W hS hc hf hk hd K hK
      have e1 : ev (.tmp 114) = .pointer (some ⟨rb, i * 2, none⟩) := hd.out 22 114 (by kernel_rfl)
      clear hk hd ci HQ
      unfold LexF.DoesR
      go_simp
      exact hK.out _ _ rfl hS.out (fun _ _ h => h)
    refine LexF.Each.cons (k' := 25) rfl ?_ ?_
    · intro ev W hS hc hf hk hd K hK
      have e1 : ev (.tmp 115) = .pointer (some ⟨rb, i * 2 + 1, none⟩) := hd.out 23 115 (by kernel_rfl)
      obtain ⟨c1, c2, _⟩ := ci.out W hS.out
      clear hk hd ci HQ
      unfold LexF.DoesR
      go_simp
      exact hK.out _ _ rfl hS.out (fun _ _ h => h)
    refine LexF.Each.cons (k' := 26) rfl ?_ ?_
    · intro ev W hS hc hf hk hd K hK
      have e1 : ev (.tmp 9) = .pointer (some ⟨p, 0, none⟩) := hk.out 9 (by decide)
      clear hk hd ci HQ
      unfold LexF.DoesR
      go_simp
      exact hK.out _ _ rfl hS.out (fun _ _ h => h)
    refine LexF.Each.cons (k' := 27) rfl ?_ ?_
    · intro ev W hS hc hf hk hd K hK
      have e1 : ev (.tmp 13) = .slice (some ⟨rb, 0, none⟩) 4 4 := hk.out 13 (by decide)
      clear hk hd ci HQ
      unfold LexF.DoesR
      go_simp
      exact hK.out _ _ rfl hS.out (fun _ _ h => h)
    refine LexF.Each.cons (k' := 28) rfl ?_ ?_
    · intro ev W hS hc hf hk hd K hK
      have e1 : ev (.tmp 14) = .int .i64 (i : Int) := hk.out 14 (by decide)
      clear hk hd ci HQ
      unfold LexF.DoesR
      go_simp
      exact hK.out _ _ rfl hS.out (fun _ _ h => h)
    refine LexF.Each.cons (k' := 29) rfl ?_ ?_
    · intro ev W hS hc hf hk hd K hK
      have e1 : ev (.tmp 118) = .slice (some ⟨rb, 0, none⟩) 4 4 := hd.out 26 118 (by kernel_rfl)
      have e2 : ev (.tmp 119) = .int .i64 (i : Int) := hd.out 27 119 (by kernel_rfl)
      clear hk hd ci HQ
      unfold LexF.DoesR
      go_simp
      exact hK.out _ _ rfl hS.out (fun _ _ h => h)
    refine LexF.Each.cons (k' := 30) rfl ?_ ?_
    · intro ev W hS hc hf hk hd K hK
      have e1 : ev (.tmp 120) = .pointer (some ⟨rb, i * 2, none⟩) := hd.out 28 120 (by kernel_rfl)
      clear hk hd ci HQ
      unfold LexF.DoesR
      go_simp
      exact hK.out _ _ rfl hS.out (fun _ _ h => h)
    refine LexF.Each.cons (k' := 31) rfl ?_ ?_
    · intro ev W hS hc hf hk hd K hK
      have e1 : ev (.tmp 121) = .pointer (some ⟨rb, i * 2, none⟩) := hd.out 29 121 (by kernel_rfl)
      obtain ⟨c1, c2, _⟩ := ci.out W hS.out
      clear hk hd ci HQ
      unfold LexF.DoesR
      go_simp
      exact hK.out _ _ rfl hS.out (fun _ _ h => h)
    refine LexF.Each.cons (k' := 32) rfl ?_ ?_
    · intro ev W hS hc hf hk hd K hK
      have e1 : ev (.tmp 1) = .int .u64 (x : Int) := hk.out 1 (by decide)
      clear hk hd ci HQ
      unfold LexF.DoesR
      go_simp
      exact hK.out _ _ rfl hS.out (fun _ _ h => h)
    refine LexF.Each.cons (k' := 33) rfl ?_ ?_
    · intro ev W hS hc hf hk hd K hK
      have e1 : ev (.tmp 2) = .int .u64 (y : Int) := hk.out 2 (by decide)
      clear hk hd ci HQ
      unfold LexF.DoesR
      go_simp
      exact hK.out _ _ rfl hS.out (fun _ _ h => h)
    refine LexF.Each.cons (k' := 34) rfl ?_ ?_
    · intro ev W hS hc hf hk hd K hK
      have e1 : ev (.tmp 123) = .int .u64 (x : Int) := hd.out 31 123 (by kernel_rfl)
      have e2 : ev (.tmp 124) = .int .u64 (y : Int) := hd.out 32 124 (by kernel_rfl)
      clear hk hd ci HQ
      unfold LexF.DoesR
      go_simp
      exact hK.out _ _ ⟨_, rfl, NumsR.lit _ _ _ _ (by first | rfl | (simp; done)) (by first | rfl | (simp; done))⟩ (hS.out.out.alloc hS.out.out.size _) (fun q l h => NumsR.more h _)
    refine LexF.Each.cons (k' := 35) rfl ?_ ?_
    · intro ev W hS hc hf hk hd K hK
      have e1 : ev (.tmp 117) = .pointer (some ⟨p, 0, none⟩) := hd.out 25 117 (by kernel_rfl)
      have e2 : ev (.tmp 122) = .int .u8 (a : Int) := hd.out 30 122 (by kernel_rfl)
      obtain ⟨g, e3, hn⟩ : ∃ g, ev (.tmp 125) = .slice (some ⟨g, 0, none⟩) 2 2 ∧ NumsR W (some ⟨g, 0, none⟩) [x, y] := hd.out 33 125 (by kernel_rfl)
      have HN := Lib.hid hn
      clear hn
      clear hk hd ci HQ
      unfold LexF.DoesR
      go_simp
      refine (A3.out W g hS.out HN.out).mono ?_
      rintro e w' ⟨rfl, hb, hs⟩
      exact ⟨_, rfl, hK.out _ _ rfl hb (fun q l h => NumsR.step hs h)⟩
    refine LexF.Each.cons (k' := 36) rfl ?_ ?_
    · intro ev W hS hc hf hk hd K hK
      have e1 : ev (.tmp 9) = .pointer (some ⟨p, 0, none⟩) := hk.out 9 (by decide)
      clear hk hd ci HQ
      unfold LexF.DoesR
      go_simp
      exact hK.out _ _ rfl hS.out (fun _ _ h => h)
    refine LexF.Each.cons (k' := 37) rfl ?_ ?_
    · intro ev W hS hc hf hk hd K hK
      have e1 : ev (.tmp 13) = .slice (some ⟨rb, 0, none⟩) 4 4 := hk.out 13 (by decide)
      clear hk hd ci HQ
      unfold LexF.DoesR
      go_simp
      exact hK.out _ _ rfl hS.out (fun _ _ h => h)
    refine LexF.Each.cons (k' := 38) rfl ?_ ?_
    · intro ev W hS hc hf hk hd K hK
      have e1 : ev (.tmp 14) = .int .i64 (i : Int) := hk.out 14 (by decide)
      clear hk hd ci HQ
      unfold LexF.DoesR
      go_simp
      exact hK.out _ _ rfl hS.out (fun _ _ h => h)
    refine LexF.Each.cons (k' := 39) rfl ?_ ?_
    · intro ev W hS hc hf hk hd K hK
      have e1 : ev (.tmp 128) = .slice (some ⟨rb, 0, none⟩) 4 4 := hd.out 36 128 (by kernel_rfl)
      have e2 : ev (.tmp 129) = .int .i64 (i : Int) := hd.out 37 129 (by kernel_rfl)
      clear hk hd ci HQ
      unfold LexF.DoesR
      go_simp
      exact hK.out _ _ rfl hS.out (fun _ _ h => h)
    refine LexF.Each.cons (k' := 40) rfl ?_ ?_
    · intro ev W hS hc hf hk hd K hK
      have e1 : ev (.tmp 130) = .pointer (some ⟨rb, i * 2, none⟩) := hd.out 38 130 (by kernel_rfl)
      clear hk hd ci HQ
      unfold LexF.DoesR
      go_simp
      exact hK.out _ _ rfl hS.out (fun _ _ h => h)
    refine LexF.Each.cons (k' := 41) rfl ?_ ?_
    · intro ev W hS hc hf hk hd K hK
      have e1 : ev (.tmp 131) = .pointer (some ⟨rb, i * 2, none⟩) := hd.out 39 131 (by kernel_rfl)
      obtain ⟨c1, c2, _⟩ := ci.out W hS.out
      clear hk hd ci HQ
      unfold LexF.DoesR
      go_simp
      exact hK.out _ _ rfl hS.out (fun _ _ h => h)
    refine LexF.Each.cons (k' := 42) rfl ?_ ?_
    · intro ev W hS hc hf hk hd K hK
      have e1 : ev (.tmp 1) = .int .u64 (x : Int) := hk.out 1 (by decide)
      clear hk hd ci HQ
      unfold LexF.DoesR
      go_simp
      exact hK.out _ _ rfl hS.out (fun _ _ h => h)
    refine LexF.Each.cons (k' := 43) rfl ?_ ?_
    · intro ev W hS hc hf hk hd K hK
      have e1 : ev (.tmp 3) = .int .u64 (z : Int) := hk.out 3 (by decide)
      clear hk hd ci HQ
      unfold LexF.DoesR
      go_simp
      exact hK.out _ _ rfl hS.out (fun _ _ h => h)
    refine LexF.Each.cons (k' := 44) rfl ?_ ?_
    · intro ev W hS hc hf hk hd K hK
      have e1 : ev (.tmp 133) = .int .u64 (x : Int) := hd.out 41 133 (by kernel_rfl)
      have e2 : ev (.tmp 134) = .int .u64 (z : Int) := hd.out 42 134 (by kernel_rfl)
      clear hk hd ci HQ
      unfold LexF.DoesR
      go_simp
      exact hK.out _ _ ⟨_, rfl, NumsR.lit _ _ _ _ (by first | rfl | (simp; done)) (by first | rfl | (simp; done))⟩ (hS.out.out.alloc hS.out.out.size _) (fun q l h => NumsR.more h _)
    refine LexF.Each.cons (k' := 45) rfl ?_ ?_
    · intro ev W hS hc hf hk hd K hK
      have e1 : ev (.tmp 127) = .pointer (some ⟨p, 0, none⟩) := hd.out 35 127 (by kernel_rfl)
      have e2 : ev (.tmp 132) = .int .u8 (a : Int) := hd.out 40 132 (by kernel_rfl)
      obtain ⟨g, e3, hn⟩ : ∃ g, ev (.tmp 135) = .slice (some ⟨g, 0, none⟩) 2 2 ∧ NumsR W (some ⟨g, 0, none⟩) [x, z] := hd.out 43 135 (by kernel_rfl)
      have HN := Lib.hid hn
      clear hn
      clear hk hd ci HQ
      unfold LexF.DoesR
      go_simp
      refine (A4.out W g hS.out HN.out).mono ?_
      rintro e w' ⟨rfl, hb, hs⟩
      exact ⟨_, rfl, hK.out _ _ rfl hb (fun q l h => NumsR.step hs h)⟩
    refine LexF.Each.cons (k' := 46) rfl ?_ ?_
    · intro ev W hS hc hf hk hd K hK
      have e1 : ev (.tmp 126) = .int .u64 (Q9 : Int) := hd.out 34 126 (by kernel_rfl)
      have e2 : ev (.tmp 136) = .int .u64 (R : Int) := hd.out 44 136 (by kernel_rfl)
      clear hk hd ci HQ
      unfold LexF.DoesR
      go_simp
      exact hK.out _ _ ⟨_, rfl, NumsR.lit _ _ _ _ (by first | rfl | (simp; done)) (by first | rfl | (simp; done))⟩ (hS.out.out.alloc hS.out.out.size _) (fun q l h => NumsR.more h _)
    refine LexF.Each.cons (k' := 47) rfl ?_ ?_
    · intro ev W hS hc hf hk hd K hK
      have e1 : ev (.tmp 111) = .pointer (some ⟨p, 0, none⟩) := hd.out 19 111 (by kernel_rfl)
      have e2 : ev (.tmp 116) = .int .u8 (b : Int) := hd.out 24 116 (by kernel_rfl)
      obtain ⟨g, e3, hn⟩ : ∃ g, ev (.tmp 137) = .slice (some ⟨g, 0, none⟩) 2 2 ∧ NumsR W (some ⟨g, 0, none⟩) [Q9, R] := hd.out 45 137 (by kernel_rfl)
      have HN := Lib.hid hn
      clear hn
      clear hk hd ci HQ
      unfold LexF.DoesR
      go_simp
      refine (A5.out W g hS.out HN.out).mono ?_
      rintro e w' ⟨rfl, hb, hs⟩
      exact ⟨_, rfl, hK.out _ _ rfl hb (fun q l h => NumsR.step hs h)⟩
    refine LexF.Each.cons (k' := 48) rfl ?_ ?_
    · intro ev W hS hc hf hk hd K hK
      have e1 : ev (.tmp 110) = .int .u64 (V : Int) := hd.out 18 110 (by kernel_rfl)
      have e2 : ev (.tmp 138) = .int .u64 (V : Int) := hd.out 46 138 (by kernel_rfl)
      clear hk hd ci HQ
      unfold LexF.DoesR
      go_simp
      exact hK.out _ _ rfl hS.out (fun _ _ h => h)
    exact LexF.Each.nil
  · intro t W hS ht
    have h1 : t 139 = .bool false := ht.out 47 139 (by kernel_rfl)
    have h2 := HQ.out (t 92) (t 93) (t 94) (t 95) (t 96) (t 97) (t 98) (t 99) (t 100) (t 101) (t 102) (t 103) (t 104) (t 105) (t 106) (t 107) (t 108) (t 109) (t 110) (t 111) (t 112) (t 113) (t 114) (t 115) (t 116) (t 117) (t 118) (t 119) (t 120) (t 121) (t 122) (t 123) (t 124) (t 125) (t 126) (t 127) (t 128) (t 129) (t 130) (t 131) (t 132) (t 133) (t 134) (t 135) (t 136) (t 137) (t 138) W hS
    rw [← h1] at h2
    clear h1 ht HQ
    refine (congrArg (fun A => Q .normal ⟨List.toArray A, []⟩ W) ?_).mpr h2
    kernel_rfl
end Go.Proofs.YtldcekejbnhloaaDoor.Words
