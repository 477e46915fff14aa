/-
  WordCompares's walk.
-/
import Derived.Test.YtldcekejbnhloaaDoorWrdM
import Derived.Test.YtldcekejbnhloaaDoorWWordTrims
set_option linter.unusedVariables false
namespace Go.Proofs.YtldcekejbnhloaaDoor
open Go.RowKit Go.Lib Ops Words
open Go.RowKit (Below)

set_option maxRecDepth 20000 in
set_option maxHeartbeats 16000000 in
theorem wordCompares_walk (w : World) (wd : Int) (hwd : (Lit.int .u8 wd).wf = true) (x : Int) (hx : (Lit.int .u64 x).wf = true) (y : Int) (hy : (Lit.int .u64 y).wf = true) (he : Env w) :
    Calls Tryd.prog 9 #[.int .u8 wd, .int .u64 x, .int .u64 y] w fun e w' => e = .returned (.bool true) ∧ Below w.heap.size w w' := by
  obtain ⟨v, rfl, hv⟩ : ∃ v : Nat, wd = v ∧ v ≤ 255 := by have := u8_range hwd; exact ⟨wd.toNat, by omega, by omega⟩
  obtain ⟨x, rfl, lx⟩ := u64_nat hx
  obtain ⟨y, rfl, ly⟩ := u64_nat hy
  have KW := Lib.hid (with_is v hv w)
  obtain ⟨h1, h⟩ := wid_rng v
  obtain ⟨W, hW⟩ : ∃ k, wid v = k := ⟨_, rfl⟩
  rw [hW] at KW h1 h
  have HE := Lib.hid he
  clear he hW hwd hx hy
  go_enter Tryd.func9, Tryd.ntmps9
  go_wp2_with fail
  refine KW.out.mono ?_
  rintro e w1 ⟨rfl, hp, hB1⟩
  have he1 := HE.out.below hB1
  have HB1 := Lib.hid hB1
  have hb0 : Hid (Below w1.heap.size w1 w1) := Below.refl _ _
  have hc0 : w1.cell? ⟨w.heap.size, 0, none⟩ = some (.int .i64 (W : Int)) := hp.c0
  have KN : Hid (∀ W', Hid (Below w1.heap.size w1 W') → Calls Tryd.prog 12 #[] W' fun e w' => e = .returned (.bool true) ∧ Hid (Below w1.heap.size w1 w')) := known_K he1
  clear hB1 KW HE
  have hw6 : IntKind.i64.wrap ((W : Int) - 1) = (W : Int) - 1 := by simp [IntKind.wrap, IntKind.bits, IntKind.signed]; omega
  have hw7 : IntKind.u64.wrap ((W : Int) - 1) = (W : Int) - 1 := by rw [wrapU]; omega
  have hs2 : (0 : Int) ≤ (W : Int) - 1 := by omega
  have hs3 : (W : Int) - 1 ≤ 64 := by omega
  obtain ⟨t, et⟩ : ∃ t, 2 ^ (W - 1) = t := ⟨_, rfl⟩
  have gt : t < 18446744073709551616 := by rw [← et]; have := two_le64 h; have := two_half h1; omega
  have hN : IntKind.u64.wrap (2 ^ (W - 1)) = (t : Int) := by
    rw [show ((2 : Int) ^ (W - 1)) = ((2 ^ (W - 1) : Nat) : Int) by rw [Int.natCast_pow]; rfl, et]
    exact wrap_nat _ gt
  have g : ∀ o x y z, vv W o x y z < 18446744073709551616 := fun o x y z => vv_64 h1 h o x y z
  obtain ⟨X, eX⟩ : ∃ X, x ^^^ t = X := ⟨_, rfl⟩
  have bX : bits .xor .u64 (x : Int) (t : Int) = (X : Int) := by rw [bits_xor x t lx gt, eX]
  have gX : X < 18446744073709551616 := by rw [← eX, ← two64] at *; exact Nat.xor_lt_two_pow lx gt
  obtain ⟨Y, eY⟩ : ∃ X, y ^^^ t = X := ⟨_, rfl⟩
  have bY : bits .xor .u64 (y : Int) (t : Int) = (Y : Int) := by rw [bits_xor y t ly gt, eY]
  have gY : Y < 18446744073709551616 := by rw [← eY, ← two64] at *; exact Nat.xor_lt_two_pow ly gt
  obtain ⟨L, eL⟩ : ∃ L, vv W 17 x y 0 = L := ⟨_, rfl⟩
  obtain ⟨E, eE⟩ : ∃ E, vv W 15 x y 0 = E := ⟨_, rfl⟩
  obtain ⟨H, eH⟩ : ∃ H, vv W 17 y x 0 = H := ⟨_, rfl⟩
  obtain ⟨P, eP⟩ : ∃ P, vv W 18 x y 0 = P := ⟨_, rfl⟩
  obtain ⟨N, eN⟩ : ∃ N, vv W 16 x y 0 = N := ⟨_, rfl⟩
  obtain ⟨S, eS⟩ : ∃ S, vv W 19 x y 0 = S := ⟨_, rfl⟩
  obtain ⟨Z, eZ⟩ : ∃ Z, vv W 20 x y 0 = Z := ⟨_, rfl⟩
  obtain ⟨sx, esx⟩ : ∃ sx, sgn W (x % 2 ^ W) = sx := ⟨_, rfl⟩
  obtain ⟨sy, esy⟩ : ∃ sy, sgn W (y % 2 ^ W) = sy := ⟨_, rfl⟩
  have K1 : Hid (∀ W', Hid (Below w1.heap.size w1 W') → Calls Tryd.prog 25 #[.pointer (some ⟨w.heap.size, 0, none⟩), .int .u8 17, .slice (some ⟨W'.heap.size, 0, none⟩) 2 2] (W'.alloc (.cells #[.int .u64 (x : Int), .int .u64 (y : Int)] 24)) fun e w' => e = .returned (.int .u64 (L : Int)) ∧ Hid (Below w1.heap.size w1 w') ∧ w'.cell? ⟨w.heap.size, 1, none⟩ = some (.bool false) ∧ w'.cell? ⟨w.heap.size, 0, none⟩ = some (.int .i64 (W : Int))) :=
    of_K h1 h hp he1 (o := 17) (ns := [x, y]) (l := 2) (r := L) (by decide) rfl rfl (by simp; omega) (eL) (by simp)
  have K2 : Hid (∀ W', Hid (Below w1.heap.size w1 W') → Calls Tryd.prog 25 #[.pointer (some ⟨w.heap.size, 0, none⟩), .int .u8 15, .slice (some ⟨W'.heap.size, 0, none⟩) 2 2] (W'.alloc (.cells #[.int .u64 (x : Int), .int .u64 (y : Int)] 24)) fun e w' => e = .returned (.int .u64 (E : Int)) ∧ Hid (Below w1.heap.size w1 w') ∧ w'.cell? ⟨w.heap.size, 1, none⟩ = some (.bool false) ∧ w'.cell? ⟨w.heap.size, 0, none⟩ = some (.int .i64 (W : Int))) :=
    of_K h1 h hp he1 (o := 15) (ns := [x, y]) (l := 2) (r := E) (by decide) rfl rfl (by simp; omega) (eE) (by simp)
  have K3 : Hid (∀ W', Hid (Below w1.heap.size w1 W') → Calls Tryd.prog 25 #[.pointer (some ⟨w.heap.size, 0, none⟩), .int .u8 17, .slice (some ⟨W'.heap.size, 0, none⟩) 2 2] (W'.alloc (.cells #[.int .u64 (y : Int), .int .u64 (x : Int)] 24)) fun e w' => e = .returned (.int .u64 (H : Int)) ∧ Hid (Below w1.heap.size w1 w') ∧ w'.cell? ⟨w.heap.size, 1, none⟩ = some (.bool false) ∧ w'.cell? ⟨w.heap.size, 0, none⟩ = some (.int .i64 (W : Int))) :=
    of_K h1 h hp he1 (o := 17) (ns := [y, x]) (l := 2) (r := H) (by decide) rfl rfl (by simp; omega) (eH) (by simp)
  have K4 : Hid (∀ W', Hid (Below w1.heap.size w1 W') → Calls Tryd.prog 25 #[.pointer (some ⟨w.heap.size, 0, none⟩), .int .u8 18, .slice (some ⟨W'.heap.size, 0, none⟩) 2 2] (W'.alloc (.cells #[.int .u64 (x : Int), .int .u64 (y : Int)] 24)) fun e w' => e = .returned (.int .u64 (P : Int)) ∧ Hid (Below w1.heap.size w1 w') ∧ w'.cell? ⟨w.heap.size, 1, none⟩ = some (.bool false) ∧ w'.cell? ⟨w.heap.size, 0, none⟩ = some (.int .i64 (W : Int))) :=
    of_K h1 h hp he1 (o := 18) (ns := [x, y]) (l := 2) (r := P) (by decide) rfl rfl (by simp; omega) (eP) (by simp)
  have K5 : Hid (∀ W', Hid (Below w1.heap.size w1 W') → Calls Tryd.prog 25 #[.pointer (some ⟨w.heap.size, 0, none⟩), .int .u8 16, .slice (some ⟨W'.heap.size, 0, none⟩) 2 2] (W'.alloc (.cells #[.int .u64 (x : Int), .int .u64 (y : Int)] 24)) fun e w' => e = .returned (.int .u64 (N : Int)) ∧ Hid (Below w1.heap.size w1 w') ∧ w'.cell? ⟨w.heap.size, 1, none⟩ = some (.bool false) ∧ w'.cell? ⟨w.heap.size, 0, none⟩ = some (.int .i64 (W : Int))) :=
    of_K h1 h hp he1 (o := 16) (ns := [x, y]) (l := 2) (r := N) (by decide) rfl rfl (by simp; omega) (eN) (by simp)
  have K6 : Hid (∀ W', Hid (Below w1.heap.size w1 W') → Calls Tryd.prog 25 #[.pointer (some ⟨w.heap.size, 0, none⟩), .int .u8 19, .slice (some ⟨W'.heap.size, 0, none⟩) 2 2] (W'.alloc (.cells #[.int .u64 (x : Int), .int .u64 (y : Int)] 24)) fun e w' => e = .returned (.int .u64 (S : Int)) ∧ Hid (Below w1.heap.size w1 w') ∧ w'.cell? ⟨w.heap.size, 1, none⟩ = some (.bool false) ∧ w'.cell? ⟨w.heap.size, 0, none⟩ = some (.int .i64 (W : Int))) :=
    of_K h1 h hp he1 (o := 19) (ns := [x, y]) (l := 2) (r := S) (by decide) rfl rfl (by simp; omega) (eS) (by simp)
  have K7 : Hid (∀ W', Hid (Below w1.heap.size w1 W') → Calls Tryd.prog 25 #[.pointer (some ⟨w.heap.size, 0, none⟩), .int .u8 17, .slice (some ⟨W'.heap.size, 0, none⟩) 2 2] (W'.alloc (.cells #[.int .u64 (X : Int), .int .u64 (Y : Int)] 24)) fun e w' => e = .returned (.int .u64 (S : Int)) ∧ Hid (Below w1.heap.size w1 w') ∧ w'.cell? ⟨w.heap.size, 1, none⟩ = some (.bool false) ∧ w'.cell? ⟨w.heap.size, 0, none⟩ = some (.int .i64 (W : Int))) :=
    of_K h1 h hp he1 (o := 17) (ns := [X, Y]) (l := 2) (r := S) (by decide) rfl rfl (by simp; omega) (by show vv W 17 X Y 0 = S; rw [← eX, ← eY, ← et, ← vv_slt h1, eS]) (by simp)
  have K8 : Hid (∀ W', Hid (Below w1.heap.size w1 W') → Calls Tryd.prog 25 #[.pointer (some ⟨w.heap.size, 0, none⟩), .int .u8 20, .slice (some ⟨W'.heap.size, 0, none⟩) 2 2] (W'.alloc (.cells #[.int .u64 (x : Int), .int .u64 (y : Int)] 24)) fun e w' => e = .returned (.int .u64 (Z : Int)) ∧ Hid (Below w1.heap.size w1 w') ∧ w'.cell? ⟨w.heap.size, 1, none⟩ = some (.bool false) ∧ w'.cell? ⟨w.heap.size, 0, none⟩ = some (.int .i64 (W : Int))) :=
    of_K h1 h hp he1 (o := 20) (ns := [x, y]) (l := 2) (r := Z) (by decide) rfl rfl (by simp; omega) (eZ) (by simp)
  have K9 : Hid (∀ W', Hid (Below w1.heap.size w1 W') → Calls Tryd.prog 25 #[.pointer (some ⟨w.heap.size, 0, none⟩), .int .u8 18, .slice (some ⟨W'.heap.size, 0, none⟩) 2 2] (W'.alloc (.cells #[.int .u64 (X : Int), .int .u64 (Y : Int)] 24)) fun e w' => e = .returned (.int .u64 (Z : Int)) ∧ Hid (Below w1.heap.size w1 w') ∧ w'.cell? ⟨w.heap.size, 1, none⟩ = some (.bool false) ∧ w'.cell? ⟨w.heap.size, 0, none⟩ = some (.int .i64 (W : Int))) :=
    of_K h1 h hp he1 (o := 18) (ns := [X, Y]) (l := 2) (r := Z) (by decide) rfl rfl (by simp; omega) (by show vv W 18 X Y 0 = Z; rw [← eX, ← eY, ← et, ← vv_sle h1, eZ]) (by simp)
  have S1 : Hid (∀ W', Hid (Below w1.heap.size w1 W') → Calls Tryd.prog 18 #[.int .i64 (W : Int), .int .u64 (x : Int)] W' fun e w' => e = .returned (.tuple #[.int .i64 sx, .int .i64 0]) ∧ Hid (Below w1.heap.size w1 w') ∧ w'.cell? ⟨w.heap.size, 1, none⟩ = some (.bool false) ∧ w'.cell? ⟨w.heap.size, 0, none⟩ = some (.int .i64 (W : Int))) :=
    signed_K h1 h hp (v := x) (by omega) (esx)
  have S2 : Hid (∀ W', Hid (Below w1.heap.size w1 W') → Calls Tryd.prog 18 #[.int .i64 (W : Int), .int .u64 (y : Int)] W' fun e w' => e = .returned (.tuple #[.int .i64 sy, .int .i64 0]) ∧ Hid (Below w1.heap.size w1 w') ∧ w'.cell? ⟨w.heap.size, 1, none⟩ = some (.bool false) ∧ w'.cell? ⟨w.heap.size, 0, none⟩ = some (.int .i64 (W : Int))) :=
    signed_K h1 h hp (v := y) (by omega) (esy)
  have q1 : L + E + H = 1 := by rw [← eL, ← eE, ← eH]; exact vv_one h1 x y
  have q2 : P = L + E := by rw [← eP, ← eL, ← eE]; exact vv_le h1 x y
  have q3 : N = 1 - E := by rw [← eN, ← eE]; exact vv_ne h1 x y
  have r1 : ¬ (1 : Int) < (L : Int) := by omega
  have r2 : ¬ (1 : Int) < (E : Int) := by omega
  have r3 : IntKind.u64.wrap ((L : Int) + (E : Int)) = (P : Int) := by rw [wrapU]; omega
  have r4 : IntKind.u64.wrap ((P : Int) + (H : Int)) = 1 := by rw [wrapU]; omega
  have r5 : IntKind.u64.wrap (1 - (E : Int)) = (N : Int) := by rw [wrapU]; omega
  have r6 : (decide (sx < sy) == ((S : Int) == 1)) = true := by
    have := vv_slt_s h1 x y
    rw [esx, esy, eS] at this
    rw [this]
    by_cases hS : S = 1
    · subst hS; rfl
    · have hS2 : ((S : Int) == 1) = false := by simp; omega
      rw [hS2]; simpa using hS
  have r7 : (decide (sx ≤ sy) == ((Z : Int) == 1)) = true := by
    have := vv_sle_s h1 x y
    rw [esx, esy, eZ] at this
    rw [this]
    by_cases hS : Z = 1
    · subst hS; rfl
    · have hS2 : ((Z : Int) == 1) = false := by simp; omega
      rw [hS2]; simpa using hS
  clear g gX gY eX eY eL eE eH eP eN eS eZ esx esy et gt q1 q2 q3 hp he1 h1 h lx ly
  go_wp2_with (first | (go_at_call 25; with_reducible refine (K1.out _ (by assumption)).mono ?_; rintro e w' ⟨rfl, hb, hc, hd⟩) | (go_at_call 25; with_reducible refine (K2.out _ (by assumption)).mono ?_; rintro e w' ⟨rfl, hb, hc, hd⟩) | (go_at_call 25; with_reducible refine (K3.out _ (by assumption)).mono ?_; rintro e w' ⟨rfl, hb, hc, hd⟩) | (go_at_call 25; with_reducible refine (K4.out _ (by assumption)).mono ?_; rintro e w' ⟨rfl, hb, hc, hd⟩) | (go_at_call 25; with_reducible refine (K5.out _ (by assumption)).mono ?_; rintro e w' ⟨rfl, hb, hc, hd⟩) | (go_at_call 25; with_reducible refine (K6.out _ (by assumption)).mono ?_; rintro e w' ⟨rfl, hb, hc, hd⟩) | (go_at_call 25; with_reducible refine (K7.out _ (by assumption)).mono ?_; rintro e w' ⟨rfl, hb, hc, hd⟩) | (go_at_call 25; with_reducible refine (K8.out _ (by assumption)).mono ?_; rintro e w' ⟨rfl, hb, hc, hd⟩) | (go_at_call 25; with_reducible refine (K9.out _ (by assumption)).mono ?_; rintro e w' ⟨rfl, hb, hc, hd⟩) | (go_at_call 18; with_reducible refine (S1.out _ (by assumption)).mono ?_; rintro e w' ⟨rfl, hb, hc, hd⟩) | (go_at_call 18; with_reducible refine (S2.out _ (by assumption)).mono ?_; rintro e w' ⟨rfl, hb, hc, hd⟩) | (go_at_call 12; with_reducible refine (KN.out _ (by assumption)).mono ?_; rintro e w' ⟨rfl, hb⟩))
  go_ret
  exact ⟨rfl, HB1.out.trans (Below.mono (Hid.out (p := Below w1.heap.size w1 _) (by assumption)) HB1.out.size)⟩
end Go.Proofs.YtldcekejbnhloaaDoor
