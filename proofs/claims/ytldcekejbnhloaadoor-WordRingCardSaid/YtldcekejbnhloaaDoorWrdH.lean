/-
  Layer word: the reference's shifts (a loop), its results and its Apply.
-/
import Derived.Test.YtldcekejbnhloaaDoorWrdG
set_option linter.unusedSectionVars false
set_option linter.unusedVariables false
namespace Go.Proofs.YtldcekejbnhloaaDoor.Words
open Go.RowKit Go.Lib Ops
open Go.RowKit (Below)

/-! One place more. -/
theorem shl_step (W a i : Nat) : ((res W 12 a (i + 1) 0 : Nat) : Int) = (2 * ((res W 12 a i 0 : Nat) : Int)) % (2 ^ W : Nat) := by
  show ((a * 2 ^ (i + 1) % 2 ^ W : Nat) : Int) = (2 * ((a * 2 ^ i % 2 ^ W : Nat) : Int)) % (2 ^ W : Nat)
  have e : a * 2 ^ (i + 1) = 2 * (a * 2 ^ i) := by rw [Nat.pow_succ]; rw [← Nat.mul_assoc, Nat.mul_comm 2]
  rw [e, Nat.mul_mod]
  rw [show (2 * ((a * 2 ^ i % 2 ^ W : Nat) : Int)) = ((2 * (a * 2 ^ i % 2 ^ W) : Nat) : Int) by rw [Int.natCast_mul]; rfl, ← Int.natCast_emod]
  rw [Nat.mul_mod 2 (a * 2 ^ i % 2 ^ W), Nat.mod_mod]
theorem half_step (a i : Nat) : a / 2 ^ (i + 1) = a / 2 ^ i / 2 := by rw [Nat.pow_succ, Nat.div_div_eq_div_mul]
theorem fill_step {W : Nat} (h1 : 1 ≤ W) (a i : Nat) : 2 ^ W - 1 - (2 ^ W - 1 - a) / 2 ^ (i + 1) = (2 ^ W - 1 - (2 ^ W - 1 - a) / 2 ^ i) / 2 + 2 ^ (W - 1) := by
  rw [half_step]
  have hy : (2 ^ W - 1 - a) / 2 ^ i ≤ 2 ^ W - 1 - a := Nat.div_le_self _ _
  have hh := two_half h1
  have hq := two_pos (W - 1)
  generalize (2 ^ W - 1 - a) / 2 ^ i = y at *
  generalize 2 ^ W = M at *
  generalize 2 ^ (W - 1) = N at *
  omega
/-- Shifts by the width and more are as by the width. -/
theorem res_min {W : Nat} (a b : Nat) (ha : a < 2 ^ W) (o : Nat) (ho : o = 12 ∨ o = 13 ∨ o = 14) : res W o a (min b W) 0 = res W o a b 0 := by
  by_cases hl : b ≤ W
  · rw [Nat.min_eq_left hl]
  · have d0 : ∀ x n, x < 2 ^ W → W ≤ n → x / 2 ^ n = 0 := fun x n hx hn => Nat.div_eq_of_lt (Nat.lt_of_lt_of_le hx (Nat.pow_le_pow_right (by decide) hn))
    rw [Nat.min_eq_right (by omega)]
    rcases ho with rfl | rfl | rfl
    · have d : ∀ n, W ≤ n → a * 2 ^ n % 2 ^ W = 0 := fun n hn => Nat.mod_eq_zero_of_dvd (Nat.dvd_trans (Nat.pow_dvd_pow 2 hn) (Nat.dvd_mul_left _ _))
      show a * 2 ^ W % 2 ^ W = a * 2 ^ b % 2 ^ W
      rw [d _ (Nat.le_refl _), d _ (by omega)]
    · show a / 2 ^ W = a / 2 ^ b
      rw [d0 a W ha (Nat.le_refl _), d0 a b ha (by omega)]
    · show (if a < 2 ^ (W - 1) then a / 2 ^ W else 2 ^ W - 1 - (2 ^ W - 1 - a) / 2 ^ W) = if a < 2 ^ (W - 1) then a / 2 ^ b else 2 ^ W - 1 - (2 ^ W - 1 - a) / 2 ^ b
      have hp := two_pos W
      rw [d0 a W ha (Nat.le_refl _), d0 a b ha (by omega), d0 _ W (by omega) (Nat.le_refl _), d0 _ b (by omega) (by omega)]
theorem res_zero {W : Nat} (a : Nat) (ha : a < 2 ^ W) (o : Nat) (ho : o = 12 ∨ o = 13 ∨ o = 14) : res W o a 0 0 = a := by
  rcases ho with rfl | rfl | rfl
  · show a * 2 ^ 0 % 2 ^ W = a
    rw [Nat.pow_zero, Nat.mul_one, Nat.mod_eq_of_lt ha]
  · show a / 2 ^ 0 = a
    rw [Nat.pow_zero, Nat.div_one]
  · show (if a < 2 ^ (W - 1) then a / 2 ^ 0 else 2 ^ W - 1 - (2 ^ W - 1 - a) / 2 ^ 0) = a
    rw [Nat.pow_zero, Nat.div_one, Nat.div_one]
    split <;> omega
set_option maxRecDepth 20000 in
set_option maxHeartbeats 4000000 in
theorem rshl_is {W : Nat} (h1 : 1 ≤ W) (h : W ≤ 64) (a b : Nat) (ha : a < 2 ^ W) (hb : b < 18446744073709551616) (w : World) : Calls Tryd.prog 38 #[.int .u8 12, .int .i64 (W : Int), .int .u64 (a : Int), .int .u64 (b : Int)] w fun e w' => e = .returned (.int .u64 (res W 12 a b 0 : Nat)) ∧ w = w' := by
  have hw2 : IntKind.u64.wrap (W : Int) = (W : Int) := u64_of h
  have H0 := Lib.hid (res_zero a ha 12 (.inl rfl))
  have H9 := Lib.hid (res_min a b ha 12 (.inl rfl))
  have HA := Lib.hid ha
  have KT : Hid (∀ i, Calls Tryd.prog 32 #[.int .i64 (W : Int), .int .u64 (IntKind.u64.wrap (2 * ((res W 12 a i 0 : Nat) : Int)))] w fun e w' => e = .returned (.int .u64 (res W 12 a (i + 1) 0 : Nat)) ∧ w = w') := fun i => rtrim_wrap h1 h _ w _ (shl_step W a i)
  clear ha
  go_enter Tryd.func38, Tryd.ntmps38
  go_wp2
  go_loop [2, 10] (fun x i => ∃ k : Nat, i = .int .u64 k ∧ k ≤ min b W ∧ x = .int .u64 ((res W 12 a k 0 : Nat) : Int)) (fun _ i => W - (intOf i).toNat)
  case atStart => exact ⟨0, rfl, by omega, by rw [H0.out]⟩
  case round =>
    obtain ⟨k, rfl, hk, rfl⟩ := hrel
    by_cases hlt : k < min b W
    · have hk1 : (k : Int) < (b : Int) := by omega
      have hk2 : (k : Int) < (W : Int) := by omega
      have hk3 : IntKind.u64.wrap ((k : Int) + 1) = (k : Int) + 1 := by rw [wrapU]; omega
      have K := Lib.hid (KT.out k)
      obtain ⟨x, hx⟩ : ∃ x, res W 12 a k 0 = x := ⟨_, rfl⟩
      obtain ⟨y, hy⟩ : ∃ x, res W 12 a (k + 1) 0 = x := ⟨_, rfl⟩
      have HY := Lib.hid hy
      rw [hx, hy] at K
      rw [hx]
      clear hx hy KT
      go_wp2_with (go_at_call 32; refine K.out.mono ?_; rintro e w' ⟨rfl, rfl⟩)
      go_round
      case rel => exact ⟨k + 1, by go_num, by omega, by rw [HY.out]⟩
      case measure => simp [intOf]; omega
    · obtain rfl : k = min b W := by omega
      rw [H9.out]
      have hg : ¬ ((min b W : Nat) : Int) < (b : Int) ∨ ((min b W : Nat) : Int) < (b : Int) ∧ ¬ ((min b W : Nat) : Int) < (W : Int) := by omega
      obtain ⟨m, hm⟩ : ∃ m, min b W = m := ⟨_, rfl⟩
      rw [hm] at hg ⊢
      clear hm hlt hk KT
      rcases hg with hg | ⟨hg, hg2⟩
      all_goals
        go_wp2
        go_ret
        exact ⟨rfl, rfl⟩
set_option maxRecDepth 20000 in
set_option maxHeartbeats 4000000 in
theorem rshr_is {W : Nat} (h1 : 1 ≤ W) (h : W ≤ 64) (a b : Nat) (ha : a < 2 ^ W) (hb : b < 18446744073709551616) (w : World) : Calls Tryd.prog 38 #[.int .u8 13, .int .i64 (W : Int), .int .u64 (a : Int), .int .u64 (b : Int)] w fun e w' => e = .returned (.int .u64 (res W 13 a b 0 : Nat)) ∧ w = w' := by
  have hw2 : IntKind.u64.wrap (W : Int) = (W : Int) := u64_of h
  have H0 := Lib.hid (res_zero a ha 13 (by omega))
  have H9 := Lib.hid (res_min a b ha 13 (by omega))
  have HA := Lib.hid ha
  have HL : Hid (∀ i, res W 13 a i 0 < 18446744073709551616) := fun i => by
    have := two_le64 h
    show a / 2 ^ i < 18446744073709551616
    have := Nat.div_le_self a (2 ^ i)
    omega
  have HS : Hid (∀ i, res W 13 a (i + 1) 0 = res W 13 a i 0 / 2) := fun i => by show a / 2 ^ (i + 1) = a / 2 ^ i / 2; exact half_step a i
  clear ha
  go_enter Tryd.func38, Tryd.ntmps38
  go_wp2
  go_loop [2, 10] (fun x i => ∃ k : Nat, i = .int .u64 k ∧ k ≤ min b W ∧ x = .int .u64 ((res W 13 a k 0 : Nat) : Int)) (fun _ i => W - (intOf i).toNat)
  case atStart => exact ⟨0, rfl, by omega, by rw [H0.out]⟩
  case round =>
    obtain ⟨k, rfl, hk, rfl⟩ := hrel
    by_cases hlt : k < min b W
    · have hk1 : (k : Int) < (b : Int) := by omega
      have hk2 : (k : Int) < (W : Int) := by omega
      have hk3 : IntKind.u64.wrap ((k : Int) + 1) = (k : Int) + 1 := by rw [wrapU]; omega
      obtain ⟨x, hx⟩ : ∃ x, res W 13 a k 0 = x := ⟨_, rfl⟩
      obtain ⟨y, hy⟩ : ∃ x, res W 13 a (k + 1) 0 = x := ⟨_, rfl⟩
      have HY := Lib.hid hy
      have HX := Lib.hid hx
      have hy3 : (x : Int) / 2 = (y : Int) := by rw [HY.out.symm.trans (HS.out k), HX.out]; omega
      have hy4 : IntKind.u64.wrap (y : Int) = (y : Int) := wrap_nat y (by rw [← HY.out]; exact HL.out (k + 1))
      rw [hx]
      clear hx hy
      go_wp2
      go_round
      case rel => exact ⟨k + 1, by go_num, by omega, by rw [HY.out]⟩
      case measure => simp [intOf]; omega
    · obtain rfl : k = min b W := by omega
      rw [H9.out]
      have hg : ¬ ((min b W : Nat) : Int) < (b : Int) ∨ ((min b W : Nat) : Int) < (b : Int) ∧ ¬ ((min b W : Nat) : Int) < (W : Int) := by omega
      obtain ⟨m, hm⟩ : ∃ m, min b W = m := ⟨_, rfl⟩
      rw [hm] at hg ⊢
      clear hm hlt hk
      rcases hg with hg | ⟨hg, hg2⟩
      all_goals
        go_wp2
        go_ret
        exact ⟨rfl, rfl⟩
set_option maxRecDepth 20000 in
set_option maxHeartbeats 4000000 in
theorem rsar_low {W : Nat} (h1 : 1 ≤ W) (h : W ≤ 64) (a b : Nat) (ha : a < 2 ^ W) (hb : b < 18446744073709551616) (hs : ¬ 2 ^ (W - 1) ≤ a) (w : World) : Calls Tryd.prog 38 #[.int .u8 14, .int .i64 (W : Int), .int .u64 (a : Int), .int .u64 (b : Int)] w fun e w' => e = .returned (.int .u64 (res W 14 a b 0 : Nat)) ∧ w = w' := by
  have hw2 : IntKind.u64.wrap (W : Int) = (W : Int) := u64_of h
  have H0 := Lib.hid (res_zero a ha 14 (by omega))
  have H9 := Lib.hid (res_min a b ha 14 (by omega))
  have HA := Lib.hid ha
  have HL : Hid (∀ i, res W 14 a i 0 < 18446744073709551616) := fun i => by
    have := two_le64 h
    show (if a < 2 ^ (W - 1) then a / 2 ^ i else 2 ^ W - 1 - (2 ^ W - 1 - a) / 2 ^ i) < 18446744073709551616
    rw [if_pos (by omega)]
    have := Nat.div_le_self a (2 ^ i)
    omega
  have HS : Hid (∀ i, res W 14 a (i + 1) 0 = res W 14 a i 0 / 2) := fun i => by show (if a < 2 ^ (W - 1) then a / 2 ^ (i + 1) else 2 ^ W - 1 - (2 ^ W - 1 - a) / 2 ^ (i + 1)) = (if a < 2 ^ (W - 1) then a / 2 ^ i else 2 ^ W - 1 - (2 ^ W - 1 - a) / 2 ^ i) / 2; rw [if_pos (by omega), if_pos (by omega)]; exact half_step a i
  have KP := Lib.hid (rtop_is h1 h a ha w)
  rw [decide_eq_false hs] at KP
  clear ha
  go_enter Tryd.func38, Tryd.ntmps38
  go_wp2_with (go_at_call 35; refine KP.out.mono ?_; rintro e w' ⟨rfl, rfl⟩)
  go_loop [2, 10] (fun x i => ∃ k : Nat, i = .int .u64 k ∧ k ≤ min b W ∧ x = .int .u64 ((res W 14 a k 0 : Nat) : Int)) (fun _ i => W - (intOf i).toNat)
  case atStart => exact ⟨0, rfl, by omega, by rw [H0.out]⟩
  case round =>
    obtain ⟨k, rfl, hk, rfl⟩ := hrel
    by_cases hlt : k < min b W
    · have hk1 : (k : Int) < (b : Int) := by omega
      have hk2 : (k : Int) < (W : Int) := by omega
      have hk3 : IntKind.u64.wrap ((k : Int) + 1) = (k : Int) + 1 := by rw [wrapU]; omega
      obtain ⟨x, hx⟩ : ∃ x, res W 14 a k 0 = x := ⟨_, rfl⟩
      obtain ⟨y, hy⟩ : ∃ x, res W 14 a (k + 1) 0 = x := ⟨_, rfl⟩
      have HY := Lib.hid hy
      have HX := Lib.hid hx
      have hy3 : (x : Int) / 2 = (y : Int) := by rw [HY.out.symm.trans (HS.out k), HX.out]; omega
      have hy4 : IntKind.u64.wrap (y : Int) = (y : Int) := wrap_nat y (by rw [← HY.out]; exact HL.out (k + 1))
      rw [hx]
      clear hx hy
      go_wp2
      go_round
      case rel => exact ⟨k + 1, by go_num, by omega, by rw [HY.out]⟩
      case measure => simp [intOf]; omega
    · obtain rfl : k = min b W := by omega
      rw [H9.out]
      have hg : ¬ ((min b W : Nat) : Int) < (b : Int) ∨ ((min b W : Nat) : Int) < (b : Int) ∧ ¬ ((min b W : Nat) : Int) < (W : Int) := by omega
      obtain ⟨m, hm⟩ : ∃ m, min b W = m := ⟨_, rfl⟩
      rw [hm] at hg ⊢
      clear hm hlt hk
      rcases hg with hg | ⟨hg, hg2⟩
      all_goals
        go_wp2
        go_ret
        exact ⟨rfl, rfl⟩
set_option maxRecDepth 20000 in
set_option maxHeartbeats 4000000 in
theorem rsar_top {W : Nat} (h1 : 1 ≤ W) (h : W ≤ 64) (a b : Nat) (ha : a < 2 ^ W) (hb : b < 18446744073709551616) (hs : 2 ^ (W - 1) ≤ a) (w : World) : Calls Tryd.prog 38 #[.int .u8 14, .int .i64 (W : Int), .int .u64 (a : Int), .int .u64 (b : Int)] w fun e w' => e = .returned (.int .u64 (res W 14 a b 0 : Nat)) ∧ w = w' := by
  have hw2 : IntKind.u64.wrap (W : Int) = (W : Int) := u64_of h
  have H0 := Lib.hid (res_zero a ha 14 (by omega))
  have H9 := Lib.hid (res_min a b ha 14 (by omega))
  have HA := Lib.hid ha
  have HS : Hid (∀ i, res W 14 a (i + 1) 0 = res W 14 a i 0 / 2 + 2 ^ (W - 1)) := fun i => by show (if a < 2 ^ (W - 1) then a / 2 ^ (i + 1) else 2 ^ W - 1 - (2 ^ W - 1 - a) / 2 ^ (i + 1)) = (if a < 2 ^ (W - 1) then a / 2 ^ i else 2 ^ W - 1 - (2 ^ W - 1 - a) / 2 ^ i) / 2 + 2 ^ (W - 1); rw [if_neg (by omega), if_neg (by omega)]; exact fill_step h1 a i
  have hw : IntKind.i64.wrap ((W : Int) - 1) = (W : Int) - 1 := by simp [IntKind.wrap, IntKind.bits, IntKind.signed]; omega
  have hw3 : IntKind.u64.wrap ((W : Int) - 1) = (W : Int) - 1 := by rw [wrapU]; omega
  have hs2 : (0 : Int) ≤ (W : Int) - 1 := by omega
  have hN1 : 2 ^ (W - 1) < 18446744073709551616 := by have := two_le64 h; have := two_half h1; omega
  have hN : IntKind.u64.wrap (2 ^ (W - 1)) = ((2 ^ (W - 1) : Nat) : Int) := by
    rw [show ((2 : Int) ^ (W - 1)) = ((2 ^ (W - 1) : Nat) : Int) by rw [Int.natCast_pow]; rfl]
    exact wrap_nat _ hN1
  have HL : Hid (∀ i, res W 14 a i 0 < 18446744073709551616) := fun i => by
    have : res W 14 a i 0 < 2 ^ W := by
      show (if a < 2 ^ (W - 1) then a / 2 ^ i else 2 ^ W - 1 - (2 ^ W - 1 - a) / 2 ^ i) < 2 ^ W
      have := two_pos W
      rw [if_neg (by omega)]; exact Nat.lt_of_le_of_lt (Nat.sub_le _ _) (by omega)
    have := two_le64 h; omega
  have KP := Lib.hid (rtop_is h1 h a ha w)
  rw [decide_eq_true hs] at KP
  clear ha
  go_enter Tryd.func38, Tryd.ntmps38
  go_wp2_with (go_at_call 35; refine KP.out.mono ?_; rintro e w' ⟨rfl, rfl⟩)
  go_loop [2, 10] (fun x i => ∃ k : Nat, i = .int .u64 k ∧ k ≤ min b W ∧ x = .int .u64 ((res W 14 a k 0 : Nat) : Int)) (fun _ i => W - (intOf i).toNat)
  case atStart => exact ⟨0, rfl, by omega, by rw [H0.out]⟩
  case round =>
    obtain ⟨k, rfl, hk, rfl⟩ := hrel
    by_cases hlt : k < min b W
    · have hk1 : (k : Int) < (b : Int) := by omega
      have hk2 : (k : Int) < (W : Int) := by omega
      have hk3 : IntKind.u64.wrap ((k : Int) + 1) = (k : Int) + 1 := by rw [wrapU]; omega
      obtain ⟨x, hx⟩ : ∃ x, res W 14 a k 0 = x := ⟨_, rfl⟩
      obtain ⟨y, hy⟩ : ∃ x, res W 14 a (k + 1) 0 = x := ⟨_, rfl⟩
      have HY := Lib.hid hy
      have HX := Lib.hid hx
      have hy4 : IntKind.u64.wrap (IntKind.u64.wrap ((x : Int) / 2) + 2 ^ (W - 1)) = (y : Int) := by
        have l0 := HL.out k
        have l1 := HL.out (k + 1)
        rw [HX.out] at l0
        rw [HY.out] at l1
        have e := HY.out.symm.trans (HS.out k)
        rw [HX.out] at e
        rw [show ((2 : Int) ^ (W - 1)) = ((2 ^ (W - 1) : Nat) : Int) by rw [Int.natCast_pow]; rfl]
        generalize 2 ^ (W - 1) = N at e
        rw [show (x : Int) / 2 = ((x / 2 : Nat) : Int) by omega, wrap_nat _ (by omega), e, wrapU]
        omega
      rw [hx]
      clear hx hy
      go_wp2
      go_round
      case rel => exact ⟨k + 1, by go_num, by omega, by rw [HY.out]⟩
      case measure => simp [intOf]; omega
    · obtain rfl : k = min b W := by omega
      rw [H9.out]
      have hg : ¬ ((min b W : Nat) : Int) < (b : Int) ∨ ((min b W : Nat) : Int) < (b : Int) ∧ ¬ ((min b W : Nat) : Int) < (W : Int) := by omega
      obtain ⟨m, hm⟩ : ∃ m, min b W = m := ⟨_, rfl⟩
      rw [hm] at hg ⊢
      clear hm hlt hk
      rcases hg with hg | ⟨hg, hg2⟩
      all_goals
        go_wp2
        go_ret
        exact ⟨rfl, rfl⟩
theorem rsar_is {W : Nat} (h1 : 1 ≤ W) (h : W ≤ 64) (a b : Nat) (ha : a < 2 ^ W) (hb : b < 18446744073709551616) (w : World) : Calls Tryd.prog 38 #[.int .u8 14, .int .i64 (W : Int), .int .u64 (a : Int), .int .u64 (b : Int)] w fun e w' => e = .returned (.int .u64 (res W 14 a b 0 : Nat)) ∧ w = w' := by
  by_cases hs : 2 ^ (W - 1) ≤ a
  · exact rsar_top h1 h a b ha hb hs w
  · exact rsar_low h1 h a b ha hb hs w
end Go.Proofs.YtldcekejbnhloaaDoor.Words
