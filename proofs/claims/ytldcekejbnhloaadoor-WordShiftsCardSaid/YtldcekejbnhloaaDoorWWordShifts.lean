/-
  WordShifts's walk.
-/
import Derived.Test.YtldcekejbnhloaaDoorWrdM
import Derived.Test.YtldcekejbnhloaaDoorWWordTrims
set_option linter.unusedVariables false
namespace Go.Proofs.YtldcekejbnhloaaDoor
open Go.RowKit Go.Lib Ops Words
open Go.RowKit (Below)

set_option maxRecDepth 20000 in
set_option maxHeartbeats 16000000 in
theorem wordShifts_walk (w : World) (wd : Int) (hwd : (Lit.int .u8 wd).wf = true) (x : Int) (hx : (Lit.int .u64 x).wf = true) (y : Int) (hy : (Lit.int .u64 y).wf = true) (he : Env w) :
    Calls Tryd.prog 10 #[.int .u8 wd, .int .u64 x, .int .u64 y] w fun e w' => e = .returned (.bool true) ∧ Below w.heap.size w w' := by
  obtain ⟨v, rfl, hv⟩ : ∃ v : Nat, wd = v ∧ v ≤ 255 := by have := u8_range hwd; exact ⟨wd.toNat, by omega, by omega⟩
  obtain ⟨x, rfl, lx⟩ := u64_nat hx
  obtain ⟨y, rfl, ly⟩ := u64_nat hy
  have KW := Lib.hid (with_is v hv w)
  obtain ⟨h1, h⟩ := wid_rng v
  obtain ⟨W, hW⟩ : ∃ k, wid v = k := ⟨_, rfl⟩
  rw [hW] at KW h1 h
  have HE := Lib.hid he
  clear he hW hwd hx hy
  go_enter Tryd.func10, Tryd.ntmps10
  go_wp2_with fail
  refine KW.out.mono ?_
  rintro e w1 ⟨rfl, hp, hB1⟩
  have he1 := HE.out.below hB1
  have HB1 := Lib.hid hB1
  have hb0 : Hid (Below w1.heap.size w1 w1) := Below.refl _ _
  have hc0 : w1.cell? ⟨w.heap.size, 0, none⟩ = some (.int .i64 (W : Int)) := hp.c0
  have KN : Hid (∀ W', Hid (Below w1.heap.size w1 W') → Calls Tryd.prog 12 #[] W' fun e w' => e = .returned (.bool true) ∧ Hid (Below w1.heap.size w1 w')) := known_K he1
  clear hB1 KW HE
  have hw2 : IntKind.u64.wrap (W : Int) = (W : Int) := u64_of h
  have g : ∀ o x y z, vv W o x y z < 18446744073709551616 := fun o x y z => vv_64 h1 h o x y z
  obtain ⟨b, eb⟩ : ∃ b, y % 2 ^ W = b := ⟨_, rfl⟩
  obtain ⟨S, eS⟩ : ∃ S, vv W 19 x 0 0 = S := ⟨_, rfl⟩
  obtain ⟨A, eA⟩ : ∃ A, vv W 12 x y 0 = A := ⟨_, rfl⟩
  obtain ⟨B, eB⟩ : ∃ B, vv W 13 x y 0 = B := ⟨_, rfl⟩
  obtain ⟨C, eC⟩ : ∃ C, vv W 14 x y 0 = C := ⟨_, rfl⟩
  have T1 : Hid (∀ W', Hid (Below w1.heap.size w1 W') → Calls Tryd.prog 26 #[.pointer (some ⟨w.heap.size, 0, none⟩), .int .u64 (y : Int)] W' fun e w' => e = .returned (.int .u64 (b : Int)) ∧ Hid (Below w1.heap.size w1 w') ∧ w'.cell? ⟨w.heap.size, 1, none⟩ = some (.bool false) ∧ w'.cell? ⟨w.heap.size, 0, none⟩ = some (.int .i64 (W : Int))) :=
    trim_K h1 h hp (v := y) (by omega) (eb)
  have K1 : Hid (∀ W', Hid (Below w1.heap.size w1 W') → Calls Tryd.prog 25 #[.pointer (some ⟨w.heap.size, 0, none⟩), .int .u8 19, .slice (some ⟨W'.heap.size, 0, none⟩) 2 2] (W'.alloc (.cells #[.int .u64 (x : Int), .int .u64 0] 24)) fun e w' => e = .returned (.int .u64 (S : Int)) ∧ Hid (Below w1.heap.size w1 w') ∧ w'.cell? ⟨w.heap.size, 1, none⟩ = some (.bool false) ∧ w'.cell? ⟨w.heap.size, 0, none⟩ = some (.int .i64 (W : Int))) :=
    of_K h1 h hp he1 (o := 19) (ns := [x, 0]) (l := 2) (r := S) (by decide) rfl rfl (by simp; omega) (eS) (by simp)
  have K2 : Hid (∀ W', Hid (Below w1.heap.size w1 W') → Calls Tryd.prog 25 #[.pointer (some ⟨w.heap.size, 0, none⟩), .int .u8 12, .slice (some ⟨W'.heap.size, 0, none⟩) 2 2] (W'.alloc (.cells #[.int .u64 (x : Int), .int .u64 (y : Int)] 24)) fun e w' => e = .returned (.int .u64 (A : Int)) ∧ Hid (Below w1.heap.size w1 w') ∧ w'.cell? ⟨w.heap.size, 1, none⟩ = some (.bool false) ∧ w'.cell? ⟨w.heap.size, 0, none⟩ = some (.int .i64 (W : Int))) :=
    of_K h1 h hp he1 (o := 12) (ns := [x, y]) (l := 2) (r := A) (by decide) rfl rfl (by simp; omega) (eA) (by simp)
  have K3 : Hid (∀ W', Hid (Below w1.heap.size w1 W') → Calls Tryd.prog 25 #[.pointer (some ⟨w.heap.size, 0, none⟩), .int .u8 13, .slice (some ⟨W'.heap.size, 0, none⟩) 2 2] (W'.alloc (.cells #[.int .u64 (x : Int), .int .u64 (y : Int)] 24)) fun e w' => e = .returned (.int .u64 (B : Int)) ∧ Hid (Below w1.heap.size w1 w') ∧ w'.cell? ⟨w.heap.size, 1, none⟩ = some (.bool false) ∧ w'.cell? ⟨w.heap.size, 0, none⟩ = some (.int .i64 (W : Int))) :=
    of_K h1 h hp he1 (o := 13) (ns := [x, y]) (l := 2) (r := B) (by decide) rfl rfl (by simp; omega) (eB) (by simp)
  have K4 : Hid (∀ W', Hid (Below w1.heap.size w1 W') → Calls Tryd.prog 25 #[.pointer (some ⟨w.heap.size, 0, none⟩), .int .u8 14, .slice (some ⟨W'.heap.size, 0, none⟩) 2 2] (W'.alloc (.cells #[.int .u64 (x : Int), .int .u64 (y : Int)] 24)) fun e w' => e = .returned (.int .u64 (C : Int)) ∧ Hid (Below w1.heap.size w1 w') ∧ w'.cell? ⟨w.heap.size, 1, none⟩ = some (.bool false) ∧ w'.cell? ⟨w.heap.size, 0, none⟩ = some (.int .i64 (W : Int))) :=
    of_K h1 h hp he1 (o := 14) (ns := [x, y]) (l := 2) (r := C) (by decide) rfl rfl (by simp; omega) (eC) (by simp)
  have hS := vv_sign h1 x
  rw [eS] at hS
  by_cases hs : x % 2 ^ W < 2 ^ (W - 1)
  · have hS0 : S = 0 := by rw [hS, decide_eq_false (by omega)]; rfl
    subst hS0
    by_cases hy : W ≤ b
    · have hf := vv_far h1 x y (by rw [eb]; exact hy)
      rw [eA, eB, eC, if_pos hs] at hf
      obtain ⟨rfl, rfl, rfl⟩ := hf
      have hyi : (W : Int) ≤ (b : Int) := by omega
      clear hp he1 h1 h lx ly g eb eS eA eB eC hs hS
      go_wp2_with (first | (go_at_call 25; with_reducible refine (K1.out _ (by assumption)).mono ?_; rintro e w' ⟨rfl, hb, hc, hd⟩) | (go_at_call 25; with_reducible refine (K2.out _ (by assumption)).mono ?_; rintro e w' ⟨rfl, hb, hc, hd⟩) | (go_at_call 25; with_reducible refine (K3.out _ (by assumption)).mono ?_; rintro e w' ⟨rfl, hb, hc, hd⟩) | (go_at_call 25; with_reducible refine (K4.out _ (by assumption)).mono ?_; rintro e w' ⟨rfl, hb, hc, hd⟩) | (go_at_call 26; with_reducible refine (T1.out _ (by assumption)).mono ?_; rintro e w' ⟨rfl, hb, hc, hd⟩) | (go_at_call 12; with_reducible refine (KN.out _ (by assumption)).mono ?_; rintro e w' ⟨rfl, hb⟩))
      go_ret
      exact ⟨rfl, HB1.out.trans (Below.mono (Hid.out (p := Below w1.heap.size w1 _) (by assumption)) HB1.out.size)⟩
    · have hby : y % 2 ^ W < W := by omega
      have hlt : ¬ (W : Int) ≤ (b : Int) := by omega
      have hle : (b : Int) ≤ 64 := by omega
      have hpl : 2 ^ b < 18446744073709551616 := by rw [← two64]; exact Nat.pow_lt_pow_right (by decide) (by omega)
      obtain ⟨p, ep⟩ : ∃ p, 2 ^ b = p := ⟨_, rfl⟩
      have hP : IntKind.u64.wrap (2 ^ b) = (p : Int) := by
        rw [show ((2 : Int) ^ b) = ((2 ^ b : Nat) : Int) by rw [Int.natCast_pow]; rfl, ep]
        exact wrap_nat _ (by rw [← ep]; exact hpl)
      have gp : p < 18446744073709551616 := by rw [← ep]; exact hpl
      have K5 : Hid (∀ W', Hid (Below w1.heap.size w1 W') → Calls Tryd.prog 25 #[.pointer (some ⟨w.heap.size, 0, none⟩), .int .u8 6, .slice (some ⟨W'.heap.size, 0, none⟩) 2 2] (W'.alloc (.cells #[.int .u64 (x : Int), .int .u64 (p : Int)] 24)) fun e w' => e = .returned (.int .u64 (A : Int)) ∧ Hid (Below w1.heap.size w1 w') ∧ w'.cell? ⟨w.heap.size, 1, none⟩ = some (.bool false) ∧ w'.cell? ⟨w.heap.size, 0, none⟩ = some (.int .i64 (W : Int))) :=
        of_K h1 h hp he1 (o := 6) (ns := [x, p]) (l := 2) (r := A) (by decide) rfl rfl (by simp; omega) (by show vv W 6 x p 0 = A; rw [← ep, ← eb, vv_shl h1 x y hby, eA]) (by simp)
      have K6 : Hid (∀ W', Hid (Below w1.heap.size w1 W') → Calls Tryd.prog 25 #[.pointer (some ⟨w.heap.size, 0, none⟩), .int .u8 7, .slice (some ⟨W'.heap.size, 0, none⟩) 2 2] (W'.alloc (.cells #[.int .u64 (x : Int), .int .u64 (p : Int)] 24)) fun e w' => e = .returned (.int .u64 (B : Int)) ∧ Hid (Below w1.heap.size w1 w') ∧ w'.cell? ⟨w.heap.size, 1, none⟩ = some (.bool false) ∧ w'.cell? ⟨w.heap.size, 0, none⟩ = some (.int .i64 (W : Int))) :=
        of_K h1 h hp he1 (o := 7) (ns := [x, p]) (l := 2) (r := B) (by decide) rfl rfl (by simp; omega) (by show vv W 7 x p 0 = B; rw [← ep, ← eb, vv_shr h1 x y hby, eB]) (by simp)
      have hCB : C = B := by rw [← eC, ← eB]; exact vv_sar_low h1 x y hs
      subst hCB
      clear hp he1 h1 h lx ly g eb eS eA eC ep hpl gp hby hs hS hy
      go_wp2_with (first | (go_at_call 25; with_reducible refine (K1.out _ (by assumption)).mono ?_; rintro e w' ⟨rfl, hb, hc, hd⟩) | (go_at_call 25; with_reducible refine (K2.out _ (by assumption)).mono ?_; rintro e w' ⟨rfl, hb, hc, hd⟩) | (go_at_call 25; with_reducible refine (K3.out _ (by assumption)).mono ?_; rintro e w' ⟨rfl, hb, hc, hd⟩) | (go_at_call 25; with_reducible refine (K4.out _ (by assumption)).mono ?_; rintro e w' ⟨rfl, hb, hc, hd⟩) | (go_at_call 25; with_reducible refine (K5.out _ (by assumption)).mono ?_; rintro e w' ⟨rfl, hb, hc, hd⟩) | (go_at_call 25; with_reducible refine (K6.out _ (by assumption)).mono ?_; rintro e w' ⟨rfl, hb, hc, hd⟩) | (go_at_call 26; with_reducible refine (T1.out _ (by assumption)).mono ?_; rintro e w' ⟨rfl, hb, hc, hd⟩) | (go_at_call 12; with_reducible refine (KN.out _ (by assumption)).mono ?_; rintro e w' ⟨rfl, hb⟩))
      go_ret
      exact ⟨rfl, HB1.out.trans (Below.mono (Hid.out (p := Below w1.heap.size w1 _) (by assumption)) HB1.out.size)⟩
  · have hS1 : S = 1 := by rw [hS, decide_eq_true (by omega)]; rfl
    subst hS1
    obtain ⟨F, eF⟩ : ∃ F, 2 ^ W - 1 = F := ⟨_, rfl⟩
    have T2 : Hid (∀ W', Hid (Below w1.heap.size w1 W') → Calls Tryd.prog 26 #[.pointer (some ⟨w.heap.size, 0, none⟩), .int .u64 18446744073709551615] W' fun e w' => e = .returned (.int .u64 (F : Int)) ∧ Hid (Below w1.heap.size w1 w') ∧ w'.cell? ⟨w.heap.size, 1, none⟩ = some (.bool false) ∧ w'.cell? ⟨w.heap.size, 0, none⟩ = some (.int .i64 (W : Int))) :=
      trim_K h1 h hp (v := 18446744073709551615) (by omega) (by rw [low_all h, eF])
    by_cases hy : W ≤ b
    · have hf := vv_far h1 x y (by rw [eb]; exact hy)
      rw [eA, eB, eC, if_neg hs, eF] at hf
      obtain ⟨rfl, rfl, rfl⟩ := hf
      have hyi : (W : Int) ≤ (b : Int) := by omega
      clear hp he1 h1 h lx ly g eb eS eA eB eC hs hS
      go_wp2_with (first | (go_at_call 25; with_reducible refine (K1.out _ (by assumption)).mono ?_; rintro e w' ⟨rfl, hb, hc, hd⟩) | (go_at_call 25; with_reducible refine (K2.out _ (by assumption)).mono ?_; rintro e w' ⟨rfl, hb, hc, hd⟩) | (go_at_call 25; with_reducible refine (K3.out _ (by assumption)).mono ?_; rintro e w' ⟨rfl, hb, hc, hd⟩) | (go_at_call 25; with_reducible refine (K4.out _ (by assumption)).mono ?_; rintro e w' ⟨rfl, hb, hc, hd⟩) | (go_at_call 26; with_reducible refine (T1.out _ (by assumption)).mono ?_; rintro e w' ⟨rfl, hb, hc, hd⟩) | (go_at_call 26; with_reducible refine (T2.out _ (by assumption)).mono ?_; rintro e w' ⟨rfl, hb, hc, hd⟩) | (go_at_call 12; with_reducible refine (KN.out _ (by assumption)).mono ?_; rintro e w' ⟨rfl, hb⟩))
      go_ret
      exact ⟨rfl, HB1.out.trans (Below.mono (Hid.out (p := Below w1.heap.size w1 _) (by assumption)) HB1.out.size)⟩
    · have hby : y % 2 ^ W < W := by omega
      have hlt : ¬ (W : Int) ≤ (b : Int) := by omega
      have hle : (b : Int) ≤ 64 := by omega
      have hpl : 2 ^ b < 18446744073709551616 := by rw [← two64]; exact Nat.pow_lt_pow_right (by decide) (by omega)
      obtain ⟨p, ep⟩ : ∃ p, 2 ^ b = p := ⟨_, rfl⟩
      have hP : IntKind.u64.wrap (2 ^ b) = (p : Int) := by
        rw [show ((2 : Int) ^ b) = ((2 ^ b : Nat) : Int) by rw [Int.natCast_pow]; rfl, ep]
        exact wrap_nat _ (by rw [← ep]; exact hpl)
      have gp : p < 18446744073709551616 := by rw [← ep]; exact hpl
      have K5 : Hid (∀ W', Hid (Below w1.heap.size w1 W') → Calls Tryd.prog 25 #[.pointer (some ⟨w.heap.size, 0, none⟩), .int .u8 6, .slice (some ⟨W'.heap.size, 0, none⟩) 2 2] (W'.alloc (.cells #[.int .u64 (x : Int), .int .u64 (p : Int)] 24)) fun e w' => e = .returned (.int .u64 (A : Int)) ∧ Hid (Below w1.heap.size w1 w') ∧ w'.cell? ⟨w.heap.size, 1, none⟩ = some (.bool false) ∧ w'.cell? ⟨w.heap.size, 0, none⟩ = some (.int .i64 (W : Int))) :=
        of_K h1 h hp he1 (o := 6) (ns := [x, p]) (l := 2) (r := A) (by decide) rfl rfl (by simp; omega) (by show vv W 6 x p 0 = A; rw [← ep, ← eb, vv_shl h1 x y hby, eA]) (by simp)
      have K6 : Hid (∀ W', Hid (Below w1.heap.size w1 W') → Calls Tryd.prog 25 #[.pointer (some ⟨w.heap.size, 0, none⟩), .int .u8 7, .slice (some ⟨W'.heap.size, 0, none⟩) 2 2] (W'.alloc (.cells #[.int .u64 (x : Int), .int .u64 (p : Int)] 24)) fun e w' => e = .returned (.int .u64 (B : Int)) ∧ Hid (Below w1.heap.size w1 w') ∧ w'.cell? ⟨w.heap.size, 1, none⟩ = some (.bool false) ∧ w'.cell? ⟨w.heap.size, 0, none⟩ = some (.int .i64 (W : Int))) :=
        of_K h1 h hp he1 (o := 7) (ns := [x, p]) (l := 2) (r := B) (by decide) rfl rfl (by simp; omega) (by show vv W 7 x p 0 = B; rw [← ep, ← eb, vv_shr h1 x y hby, eB]) (by simp)
      obtain ⟨D, eD⟩ : ∃ D, vv W 2 x 0 0 = D := ⟨_, rfl⟩
      obtain ⟨E, eE⟩ : ∃ E, vv W 13 D y 0 = E := ⟨_, rfl⟩
      have gD : D < 18446744073709551616 := by rw [← eD]; exact g _ _ _ _
      have gE : E < 18446744073709551616 := by rw [← eE]; exact g _ _ _ _
      have K7 : Hid (∀ W', Hid (Below w1.heap.size w1 W') → Calls Tryd.prog 25 #[.pointer (some ⟨w.heap.size, 0, none⟩), .int .u8 2, .slice (some ⟨W'.heap.size, 0, none⟩) 1 1] (W'.alloc (.cells #[.int .u64 (x : Int)] 24)) fun e w' => e = .returned (.int .u64 (D : Int)) ∧ Hid (Below w1.heap.size w1 w') ∧ w'.cell? ⟨w.heap.size, 1, none⟩ = some (.bool false) ∧ w'.cell? ⟨w.heap.size, 0, none⟩ = some (.int .i64 (W : Int))) :=
        of_K h1 h hp he1 (o := 2) (ns := [x]) (l := 1) (r := D) (by decide) rfl rfl (by simp; omega) (eD) (by simp)
      have K8 : Hid (∀ W', Hid (Below w1.heap.size w1 W') → Calls Tryd.prog 25 #[.pointer (some ⟨w.heap.size, 0, none⟩), .int .u8 13, .slice (some ⟨W'.heap.size, 0, none⟩) 2 2] (W'.alloc (.cells #[.int .u64 (D : Int), .int .u64 (y : Int)] 24)) fun e w' => e = .returned (.int .u64 (E : Int)) ∧ Hid (Below w1.heap.size w1 w') ∧ w'.cell? ⟨w.heap.size, 1, none⟩ = some (.bool false) ∧ w'.cell? ⟨w.heap.size, 0, none⟩ = some (.int .i64 (W : Int))) :=
        of_K h1 h hp he1 (o := 13) (ns := [D, y]) (l := 2) (r := E) (by decide) rfl rfl (by simp; omega) (eE) (by simp)
      have K9 : Hid (∀ W', Hid (Below w1.heap.size w1 W') → Calls Tryd.prog 25 #[.pointer (some ⟨w.heap.size, 0, none⟩), .int .u8 2, .slice (some ⟨W'.heap.size, 0, none⟩) 1 1] (W'.alloc (.cells #[.int .u64 (E : Int)] 24)) fun e w' => e = .returned (.int .u64 (C : Int)) ∧ Hid (Below w1.heap.size w1 w') ∧ w'.cell? ⟨w.heap.size, 1, none⟩ = some (.bool false) ∧ w'.cell? ⟨w.heap.size, 0, none⟩ = some (.int .i64 (W : Int))) :=
        of_K h1 h hp he1 (o := 2) (ns := [E]) (l := 1) (r := C) (by decide) rfl rfl (by simp; omega) (by show vv W 2 E 0 0 = C; rw [← eE, ← eD, vv_sar_high h1 x y hs, eC]) (by simp)
      clear hp he1 h1 h lx ly g eb eS eA eB eC eD eE gD gE ep hpl gp hby hs hS hy eF
      go_wp2_with (first | (go_at_call 25; with_reducible refine (K1.out _ (by assumption)).mono ?_; rintro e w' ⟨rfl, hb, hc, hd⟩) | (go_at_call 25; with_reducible refine (K2.out _ (by assumption)).mono ?_; rintro e w' ⟨rfl, hb, hc, hd⟩) | (go_at_call 25; with_reducible refine (K3.out _ (by assumption)).mono ?_; rintro e w' ⟨rfl, hb, hc, hd⟩) | (go_at_call 25; with_reducible refine (K4.out _ (by assumption)).mono ?_; rintro e w' ⟨rfl, hb, hc, hd⟩) | (go_at_call 25; with_reducible refine (K5.out _ (by assumption)).mono ?_; rintro e w' ⟨rfl, hb, hc, hd⟩) | (go_at_call 25; with_reducible refine (K6.out _ (by assumption)).mono ?_; rintro e w' ⟨rfl, hb, hc, hd⟩) | (go_at_call 25; with_reducible refine (K7.out _ (by assumption)).mono ?_; rintro e w' ⟨rfl, hb, hc, hd⟩) | (go_at_call 25; with_reducible refine (K8.out _ (by assumption)).mono ?_; rintro e w' ⟨rfl, hb, hc, hd⟩) | (go_at_call 25; with_reducible refine (K9.out _ (by assumption)).mono ?_; rintro e w' ⟨rfl, hb, hc, hd⟩) | (go_at_call 26; with_reducible refine (T1.out _ (by assumption)).mono ?_; rintro e w' ⟨rfl, hb, hc, hd⟩) | (go_at_call 26; with_reducible refine (T2.out _ (by assumption)).mono ?_; rintro e w' ⟨rfl, hb, hc, hd⟩) | (go_at_call 12; with_reducible refine (KN.out _ (by assumption)).mono ?_; rintro e w' ⟨rfl, hb⟩))
      go_ret
      exact ⟨rfl, HB1.out.trans (Below.mono (Hid.out (p := Below w1.heap.size w1 _) (by assumption)) HB1.out.size)⟩
end Go.Proofs.YtldcekejbnhloaaDoor
