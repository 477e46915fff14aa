/-
  WordNegs's walk.
-/
import Derived.Test.YtldcekejbnhloaaDoorWrdM
import Derived.Test.YtldcekejbnhloaaDoorWWordTrims
set_option linter.unusedVariables false
namespace Go.Proofs.YtldcekejbnhloaaDoor
open Go.RowKit Go.Lib Ops Words
open Go.RowKit (Below)

set_option maxRecDepth 20000 in
set_option maxHeartbeats 16000000 in
theorem wordNegs_walk (w : World) (wd : Int) (hwd : (Lit.int .u8 wd).wf = true) (x : Int) (hx : (Lit.int .u64 x).wf = true) (y : Int) (hy : (Lit.int .u64 y).wf = true) (he : Env w) :
    Calls Tryd.prog 8 #[.int .u8 wd, .int .u64 x, .int .u64 y] w fun e w' => e = .returned (.bool true) ∧ Below w.heap.size w w' := by
  obtain ⟨v, rfl, hv⟩ : ∃ v : Nat, wd = v ∧ v ≤ 255 := by have := u8_range hwd; exact ⟨wd.toNat, by omega, by omega⟩
  obtain ⟨x, rfl, lx⟩ := u64_nat hx
  obtain ⟨y, rfl, ly⟩ := u64_nat hy
  have KW := Lib.hid (with_is v hv w)
  obtain ⟨h1, h⟩ := wid_rng v
  obtain ⟨W, hW⟩ : ∃ k, wid v = k := ⟨_, rfl⟩
  rw [hW] at KW h1 h
  have HE := Lib.hid he
  clear he hW hwd hx hy
  go_enter Tryd.func8, Tryd.ntmps8
  go_wp2_with fail
  refine KW.out.mono ?_
  rintro e w1 ⟨rfl, hp, hB1⟩
  have he1 := HE.out.below hB1
  have HB1 := Lib.hid hB1
  have hb0 : Hid (Below w1.heap.size w1 w1) := Below.refl _ _
  have hc0 : w1.cell? ⟨w.heap.size, 0, none⟩ = some (.int .i64 (W : Int)) := hp.c0
  have KN : Hid (∀ W', Hid (Below w1.heap.size w1 W') → Calls Tryd.prog 12 #[] W' fun e w' => e = .returned (.bool true) ∧ Hid (Below w1.heap.size w1 w')) := known_K he1
  clear hB1 KW HE
  obtain ⟨a, ea⟩ : ∃ a, x % 2 ^ W = a := ⟨_, rfl⟩
  obtain ⟨b, eb⟩ : ∃ b, y % 2 ^ W = b := ⟨_, rfl⟩
  obtain ⟨A, eA⟩ : ∃ A, vv W 3 x 0 0 = A := ⟨_, rfl⟩
  obtain ⟨B, eB⟩ : ∃ B, vv W 2 x 0 0 = B := ⟨_, rfl⟩
  obtain ⟨C, eC⟩ : ∃ C, vv W 5 x y 0 = C := ⟨_, rfl⟩
  obtain ⟨D, eD⟩ : ∃ D, vv W 3 y 0 0 = D := ⟨_, rfl⟩
  obtain ⟨q, eq⟩ : ∃ q, vv W 7 x y 0 = q := ⟨_, rfl⟩
  obtain ⟨r, er⟩ : ∃ r, vv W 8 x y 0 = r := ⟨_, rfl⟩
  have g : ∀ o x y z, vv W o x y z < 18446744073709551616 := fun o x y z => vv_64 h1 h o x y z
  have gA : A < 18446744073709551616 := by rw [← eA]; exact g _ _ _ _
  have gB : B < 18446744073709551616 := by rw [← eB]; exact g _ _ _ _
  have gC : C < 18446744073709551616 := by rw [← eC]; exact g _ _ _ _
  have gD : D < 18446744073709551616 := by rw [← eD]; exact g _ _ _ _
  have gq : q < 18446744073709551616 := by rw [← eq]; exact g _ _ _ _
  have gr : r < 18446744073709551616 := by rw [← er]; exact g _ _ _ _
  have T1 : Hid (∀ W', Hid (Below w1.heap.size w1 W') → Calls Tryd.prog 26 #[.pointer (some ⟨w.heap.size, 0, none⟩), .int .u64 (x : Int)] W' fun e w' => e = .returned (.int .u64 (a : Int)) ∧ Hid (Below w1.heap.size w1 w') ∧ w'.cell? ⟨w.heap.size, 1, none⟩ = some (.bool false) ∧ w'.cell? ⟨w.heap.size, 0, none⟩ = some (.int .i64 (W : Int))) :=
    trim_K h1 h hp (v := x) (by omega) (ea)
  have T2 : Hid (∀ W', Hid (Below w1.heap.size w1 W') → Calls Tryd.prog 26 #[.pointer (some ⟨w.heap.size, 0, none⟩), .int .u64 (y : Int)] W' fun e w' => e = .returned (.int .u64 (b : Int)) ∧ Hid (Below w1.heap.size w1 w') ∧ w'.cell? ⟨w.heap.size, 1, none⟩ = some (.bool false) ∧ w'.cell? ⟨w.heap.size, 0, none⟩ = some (.int .i64 (W : Int))) :=
    trim_K h1 h hp (v := y) (by omega) (eb)
  have K1 : Hid (∀ W', Hid (Below w1.heap.size w1 W') → Calls Tryd.prog 25 #[.pointer (some ⟨w.heap.size, 0, none⟩), .int .u8 3, .slice (some ⟨W'.heap.size, 0, none⟩) 1 1] (W'.alloc (.cells #[.int .u64 (x : Int)] 24)) fun e w' => e = .returned (.int .u64 (A : Int)) ∧ Hid (Below w1.heap.size w1 w') ∧ w'.cell? ⟨w.heap.size, 1, none⟩ = some (.bool false) ∧ w'.cell? ⟨w.heap.size, 0, none⟩ = some (.int .i64 (W : Int))) :=
    of_K h1 h hp he1 (o := 3) (ns := [x]) (l := 1) (r := A) (by decide) rfl rfl (by simp; omega) (eA) (by simp)
  have K2 : Hid (∀ W', Hid (Below w1.heap.size w1 W') → Calls Tryd.prog 25 #[.pointer (some ⟨w.heap.size, 0, none⟩), .int .u8 2, .slice (some ⟨W'.heap.size, 0, none⟩) 1 1] (W'.alloc (.cells #[.int .u64 (x : Int)] 24)) fun e w' => e = .returned (.int .u64 (B : Int)) ∧ Hid (Below w1.heap.size w1 w') ∧ w'.cell? ⟨w.heap.size, 1, none⟩ = some (.bool false) ∧ w'.cell? ⟨w.heap.size, 0, none⟩ = some (.int .i64 (W : Int))) :=
    of_K h1 h hp he1 (o := 2) (ns := [x]) (l := 1) (r := B) (by decide) rfl rfl (by simp; omega) (eB) (by simp)
  have K3 : Hid (∀ W', Hid (Below w1.heap.size w1 W') → Calls Tryd.prog 25 #[.pointer (some ⟨w.heap.size, 0, none⟩), .int .u8 4, .slice (some ⟨W'.heap.size, 0, none⟩) 2 2] (W'.alloc (.cells #[.int .u64 (B : Int), .int .u64 1] 24)) fun e w' => e = .returned (.int .u64 (A : Int)) ∧ Hid (Below w1.heap.size w1 w') ∧ w'.cell? ⟨w.heap.size, 1, none⟩ = some (.bool false) ∧ w'.cell? ⟨w.heap.size, 0, none⟩ = some (.int .i64 (W : Int))) :=
    of_K h1 h hp he1 (o := 4) (ns := [B, 1]) (l := 2) (r := A) (by decide) rfl rfl (by simp; omega) (by show vv W 4 B 1 0 = A; rw [← eB, ← vv_neg h1, eA]) (by simp)
  have K4 : Hid (∀ W', Hid (Below w1.heap.size w1 W') → Calls Tryd.prog 25 #[.pointer (some ⟨w.heap.size, 0, none⟩), .int .u8 5, .slice (some ⟨W'.heap.size, 0, none⟩) 2 2] (W'.alloc (.cells #[.int .u64 (x : Int), .int .u64 (y : Int)] 24)) fun e w' => e = .returned (.int .u64 (C : Int)) ∧ Hid (Below w1.heap.size w1 w') ∧ w'.cell? ⟨w.heap.size, 1, none⟩ = some (.bool false) ∧ w'.cell? ⟨w.heap.size, 0, none⟩ = some (.int .i64 (W : Int))) :=
    of_K h1 h hp he1 (o := 5) (ns := [x, y]) (l := 2) (r := C) (by decide) rfl rfl (by simp; omega) (eC) (by simp)
  have K5 : Hid (∀ W', Hid (Below w1.heap.size w1 W') → Calls Tryd.prog 25 #[.pointer (some ⟨w.heap.size, 0, none⟩), .int .u8 3, .slice (some ⟨W'.heap.size, 0, none⟩) 1 1] (W'.alloc (.cells #[.int .u64 (y : Int)] 24)) fun e w' => e = .returned (.int .u64 (D : Int)) ∧ Hid (Below w1.heap.size w1 w') ∧ w'.cell? ⟨w.heap.size, 1, none⟩ = some (.bool false) ∧ w'.cell? ⟨w.heap.size, 0, none⟩ = some (.int .i64 (W : Int))) :=
    of_K h1 h hp he1 (o := 3) (ns := [y]) (l := 1) (r := D) (by decide) rfl rfl (by simp; omega) (eD) (by simp)
  have K6 : Hid (∀ W', Hid (Below w1.heap.size w1 W') → Calls Tryd.prog 25 #[.pointer (some ⟨w.heap.size, 0, none⟩), .int .u8 4, .slice (some ⟨W'.heap.size, 0, none⟩) 2 2] (W'.alloc (.cells #[.int .u64 (x : Int), .int .u64 (D : Int)] 24)) fun e w' => e = .returned (.int .u64 (C : Int)) ∧ Hid (Below w1.heap.size w1 w') ∧ w'.cell? ⟨w.heap.size, 1, none⟩ = some (.bool false) ∧ w'.cell? ⟨w.heap.size, 0, none⟩ = some (.int .i64 (W : Int))) :=
    of_K h1 h hp he1 (o := 4) (ns := [x, D]) (l := 2) (r := C) (by decide) rfl rfl (by simp; omega) (by show vv W 4 x D 0 = C; rw [← eD, ← vv_sub h1, eC]) (by simp)
  have K7 : Hid (∀ W', Hid (Below w1.heap.size w1 W') → Calls Tryd.prog 25 #[.pointer (some ⟨w.heap.size, 0, none⟩), .int .u8 7, .slice (some ⟨W'.heap.size, 0, none⟩) 2 2] (W'.alloc (.cells #[.int .u64 (x : Int), .int .u64 (y : Int)] 24)) fun e w' => e = .returned (.int .u64 (q : Int)) ∧ Hid (Below w1.heap.size w1 w') ∧ w'.cell? ⟨w.heap.size, 1, none⟩ = some (.bool false) ∧ w'.cell? ⟨w.heap.size, 0, none⟩ = some (.int .i64 (W : Int))) :=
    of_K h1 h hp he1 (o := 7) (ns := [x, y]) (l := 2) (r := q) (by decide) rfl rfl (by simp; omega) (eq) (by simp)
  have K8 : Hid (∀ W', Hid (Below w1.heap.size w1 W') → Calls Tryd.prog 25 #[.pointer (some ⟨w.heap.size, 0, none⟩), .int .u8 8, .slice (some ⟨W'.heap.size, 0, none⟩) 2 2] (W'.alloc (.cells #[.int .u64 (x : Int), .int .u64 (y : Int)] 24)) fun e w' => e = .returned (.int .u64 (r : Int)) ∧ Hid (Below w1.heap.size w1 w') ∧ w'.cell? ⟨w.heap.size, 1, none⟩ = some (.bool false) ∧ w'.cell? ⟨w.heap.size, 0, none⟩ = some (.int .i64 (W : Int))) :=
    of_K h1 h hp he1 (o := 8) (ns := [x, y]) (l := 2) (r := r) (by decide) rfl rfl (by simp; omega) (er) (by simp)
  by_cases hb9 : b = 0
  · have T3 : Hid (∀ W', Hid (Below w1.heap.size w1 W') → Calls Tryd.prog 26 #[.pointer (some ⟨w.heap.size, 0, none⟩), .int .u64 18446744073709551615] W' fun e w' => e = .returned (.int .u64 (q : Int)) ∧ Hid (Below w1.heap.size w1 w') ∧ w'.cell? ⟨w.heap.size, 1, none⟩ = some (.bool false) ∧ w'.cell? ⟨w.heap.size, 0, none⟩ = some (.int .i64 (W : Int))) :=
      trim_K h1 h hp (v := 18446744073709551615) (by omega) (by rw [low_all h, ← eq, vv_div0 h1 x y (by rw [eb]; exact hb9)])
    have hra : r = a := by rw [← er, ← ea]; exact vv_rem0 h1 x y (by rw [eb]; exact hb9)
    subst hra
    clear g gA gB gC gD gq gr ea eb eA eB eC eD eq er hp he1 h1 h lx ly
    go_wp2_with (first | (go_at_call 25; with_reducible refine (K1.out _ (by assumption)).mono ?_; rintro e w' ⟨rfl, hb, hc, hd⟩) | (go_at_call 25; with_reducible refine (K2.out _ (by assumption)).mono ?_; rintro e w' ⟨rfl, hb, hc, hd⟩) | (go_at_call 25; with_reducible refine (K3.out _ (by assumption)).mono ?_; rintro e w' ⟨rfl, hb, hc, hd⟩) | (go_at_call 25; with_reducible refine (K4.out _ (by assumption)).mono ?_; rintro e w' ⟨rfl, hb, hc, hd⟩) | (go_at_call 25; with_reducible refine (K5.out _ (by assumption)).mono ?_; rintro e w' ⟨rfl, hb, hc, hd⟩) | (go_at_call 25; with_reducible refine (K6.out _ (by assumption)).mono ?_; rintro e w' ⟨rfl, hb, hc, hd⟩) | (go_at_call 25; with_reducible refine (K7.out _ (by assumption)).mono ?_; rintro e w' ⟨rfl, hb, hc, hd⟩) | (go_at_call 25; with_reducible refine (K8.out _ (by assumption)).mono ?_; rintro e w' ⟨rfl, hb, hc, hd⟩) | (go_at_call 26; with_reducible refine (T1.out _ (by assumption)).mono ?_; rintro e w' ⟨rfl, hb, hc, hd⟩) | (go_at_call 26; with_reducible refine (T2.out _ (by assumption)).mono ?_; rintro e w' ⟨rfl, hb, hc, hd⟩) | (go_at_call 26; with_reducible refine (T3.out _ (by assumption)).mono ?_; rintro e w' ⟨rfl, hb, hc, hd⟩) | (go_at_call 12; with_reducible refine (KN.out _ (by assumption)).mono ?_; rintro e w' ⟨rfl, hb⟩))
    go_ret
    exact ⟨rfl, HB1.out.trans (Below.mono (Hid.out (p := Below w1.heap.size w1 _) (by assumption)) HB1.out.size)⟩
  · obtain ⟨P, eP⟩ : ∃ P, vv W 6 q y 0 = P := ⟨_, rfl⟩
    have gP : P < 18446744073709551616 := by rw [← eP]; exact g _ _ _ _
    have K9 : Hid (∀ W', Hid (Below w1.heap.size w1 W') → Calls Tryd.prog 25 #[.pointer (some ⟨w.heap.size, 0, none⟩), .int .u8 6, .slice (some ⟨W'.heap.size, 0, none⟩) 2 2] (W'.alloc (.cells #[.int .u64 (q : Int), .int .u64 (y : Int)] 24)) fun e w' => e = .returned (.int .u64 (P : Int)) ∧ Hid (Below w1.heap.size w1 w') ∧ w'.cell? ⟨w.heap.size, 1, none⟩ = some (.bool false) ∧ w'.cell? ⟨w.heap.size, 0, none⟩ = some (.int .i64 (W : Int))) :=
      of_K h1 h hp he1 (o := 6) (ns := [q, y]) (l := 2) (r := P) (by decide) rfl rfl (by simp; omega) (eP) (by simp)
    have K10 : Hid (∀ W', Hid (Below w1.heap.size w1 W') → Calls Tryd.prog 25 #[.pointer (some ⟨w.heap.size, 0, none⟩), .int .u8 4, .slice (some ⟨W'.heap.size, 0, none⟩) 2 2] (W'.alloc (.cells #[.int .u64 (P : Int), .int .u64 (r : Int)] 24)) fun e w' => e = .returned (.int .u64 (a : Int)) ∧ Hid (Below w1.heap.size w1 w') ∧ w'.cell? ⟨w.heap.size, 1, none⟩ = some (.bool false) ∧ w'.cell? ⟨w.heap.size, 0, none⟩ = some (.int .i64 (W : Int))) :=
      of_K h1 h hp he1 (o := 4) (ns := [P, r]) (l := 2) (r := a) (by decide) rfl rfl (by simp; omega) (by show vv W 4 P r 0 = a; rw [← eP, ← eq, ← er, vv_back h1 x y (by rw [eb]; exact hb9), ea]) (by simp)
    have hrb : r < b := by rw [← er, ← eb]; exact vv_rem_lt h1 x y (by rw [eb]; exact hb9)
    have hqa : q ≤ a := by rw [← eq, ← ea]; exact vv_div_le h1 x y (by rw [eb]; exact hb9)
    have hrb2 : (r : Int) < (b : Int) := by omega
    have hqa2 : (q : Int) ≤ (a : Int) := by omega
    have hb8 : ((b : Int) == 0) = false := by simp; omega
    clear g gA gB gC gD gq gr gP ea eb eA eB eC eD eq er eP hp he1 h1 h lx ly
    go_wp2_with (first | (go_at_call 25; with_reducible refine (K1.out _ (by assumption)).mono ?_; rintro e w' ⟨rfl, hb, hc, hd⟩) | (go_at_call 25; with_reducible refine (K2.out _ (by assumption)).mono ?_; rintro e w' ⟨rfl, hb, hc, hd⟩) | (go_at_call 25; with_reducible refine (K3.out _ (by assumption)).mono ?_; rintro e w' ⟨rfl, hb, hc, hd⟩) | (go_at_call 25; with_reducible refine (K4.out _ (by assumption)).mono ?_; rintro e w' ⟨rfl, hb, hc, hd⟩) | (go_at_call 25; with_reducible refine (K5.out _ (by assumption)).mono ?_; rintro e w' ⟨rfl, hb, hc, hd⟩) | (go_at_call 25; with_reducible refine (K6.out _ (by assumption)).mono ?_; rintro e w' ⟨rfl, hb, hc, hd⟩) | (go_at_call 25; with_reducible refine (K7.out _ (by assumption)).mono ?_; rintro e w' ⟨rfl, hb, hc, hd⟩) | (go_at_call 25; with_reducible refine (K8.out _ (by assumption)).mono ?_; rintro e w' ⟨rfl, hb, hc, hd⟩) | (go_at_call 25; with_reducible refine (K9.out _ (by assumption)).mono ?_; rintro e w' ⟨rfl, hb, hc, hd⟩) | (go_at_call 25; with_reducible refine (K10.out _ (by assumption)).mono ?_; rintro e w' ⟨rfl, hb, hc, hd⟩) | (go_at_call 26; with_reducible refine (T1.out _ (by assumption)).mono ?_; rintro e w' ⟨rfl, hb, hc, hd⟩) | (go_at_call 26; with_reducible refine (T2.out _ (by assumption)).mono ?_; rintro e w' ⟨rfl, hb, hc, hd⟩) | (go_at_call 12; with_reducible refine (KN.out _ (by assumption)).mono ?_; rintro e w' ⟨rfl, hb⟩))
    go_ret
    exact ⟨rfl, HB1.out.trans (Below.mono (Hid.out (p := Below w1.heap.size w1 _) (by assumption)) HB1.out.size)⟩
end Go.Proofs.YtldcekejbnhloaaDoor
