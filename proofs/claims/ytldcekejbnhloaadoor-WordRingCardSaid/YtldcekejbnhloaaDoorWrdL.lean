/-
  Layer word, plain: the laws of the operators.
-/
import Derived.Test.YtldcekejbnhloaaDoorWrdK
set_option linter.unusedSectionVars false
set_option linter.unusedVariables false
namespace Go.Proofs.YtldcekejbnhloaaDoor.Words
open Go.RowKit Go.Lib Ops
open Go.RowKit (Below)

theorem two_le {W : Nat} (h1 : 1 ≤ W) : 2 ≤ 2 ^ W := by have := two_half h1; have := two_pos (W - 1); omega
section
variable {W : Nat} (h1 : 1 ≤ W) (x y z : Nat)
include h1
theorem vv_lt (o : Nat) : vv W o x y z < 2 ^ W := res_lt h1 (Nat.mod_lt _ (two_pos W)) (Nat.mod_lt _ (two_pos W)) (Nat.mod_lt _ (two_pos W))
theorem vv_mod (o : Nat) : vv W o x y z % 2 ^ W = vv W o x y z := Nat.mod_eq_of_lt (vv_lt h1 x y z o)
theorem vv_neg : vv W 3 x 0 0 = vv W 4 (vv W 2 x 0 0) 1 0 := by
  have hM := two_le h1
  have ha : x % 2 ^ W < 2 ^ W := Nat.mod_lt _ (two_pos W)
  show (2 ^ W - x % 2 ^ W) % 2 ^ W = ((2 ^ W - 1 - x % 2 ^ W) % 2 ^ W + 1 % 2 ^ W) % 2 ^ W
  generalize 2 ^ W = M at *
  generalize x % M = a at *
  rw [Nat.mod_eq_of_lt (a := M - 1 - a) (by omega), Nat.mod_eq_of_lt (a := 1) (by omega), show M - 1 - a + 1 = M - a by omega]
theorem vv_sub : vv W 5 x y 0 = vv W 4 x (vv W 3 y 0 0) 0 := by
  show (x % 2 ^ W + (2 ^ W - y % 2 ^ W)) % 2 ^ W = (x % 2 ^ W + ((2 ^ W - y % 2 ^ W) % 2 ^ W) % 2 ^ W) % 2 ^ W
  rw [Nat.mod_mod, Nat.add_mod_mod]
theorem vv_div0 (hy : y % 2 ^ W = 0) : vv W 7 x y 0 = 2 ^ W - 1 := by
  show (if y % 2 ^ W = 0 then 2 ^ W - 1 else _) = _
  rw [if_pos hy]
theorem vv_rem0 (hy : y % 2 ^ W = 0) : vv W 8 x y 0 = x % 2 ^ W := by
  show x % 2 ^ W % (y % 2 ^ W) = _
  rw [hy, Nat.mod_zero]
theorem vv_div (hy : y % 2 ^ W ≠ 0) : vv W 7 x y 0 = x % 2 ^ W / (y % 2 ^ W) := by
  show (if y % 2 ^ W = 0 then 2 ^ W - 1 else _) = _
  rw [if_neg hy]
theorem vv_back (hy : y % 2 ^ W ≠ 0) : vv W 4 (vv W 6 (vv W 7 x y 0) y 0) (vv W 8 x y 0) 0 = x % 2 ^ W := by
  have e1 : vv W 6 (vv W 7 x y 0) y 0 = vv W 7 x y 0 * (y % 2 ^ W) % 2 ^ W := by
    show vv W 7 x y 0 % 2 ^ W * (y % 2 ^ W) % 2 ^ W = _
    rw [vv_mod h1]
  show (vv W 6 (vv W 7 x y 0) y 0 % 2 ^ W + vv W 8 x y 0 % 2 ^ W) % 2 ^ W = _
  rw [vv_mod h1, vv_mod h1, e1, vv_div h1 x y hy, Nat.mod_add_mod]
  show (x % 2 ^ W / (y % 2 ^ W) * (y % 2 ^ W) + x % 2 ^ W % (y % 2 ^ W)) % 2 ^ W = _
  rw [Nat.mul_comm, Nat.div_add_mod, Nat.mod_mod]
theorem vv_rem_lt (hy : y % 2 ^ W ≠ 0) : vv W 8 x y 0 < y % 2 ^ W := Nat.mod_lt _ (by omega)
theorem vv_div_le (hy : y % 2 ^ W ≠ 0) : vv W 7 x y 0 ≤ x % 2 ^ W := by rw [vv_div h1 x y hy]; exact Nat.div_le_self _ _

theorem vv_comm (o : Nat) (ho : commN o = true) : vv W o x y 0 = vv W o y x 0 := by
  simp [commN] at ho
  rcases (show o = 4 ∨ o = 6 ∨ o = 9 ∨ o = 10 ∨ o = 11 ∨ o = 15 ∨ o = 16 by omega) with rfl | rfl | rfl | rfl | rfl | rfl | rfl
  · show (_ + _) % _ = (_ + _) % _; rw [Nat.add_comm]
  · show (_ * _) % _ = (_ * _) % _; rw [Nat.mul_comm]
  · exact Nat.and_comm _ _
  · exact Nat.or_comm _ _
  · exact Nat.xor_comm _ _
  · show bitN (decide (_ = _)) = bitN (decide (_ = _)); congr 1; rw [Bool.eq_iff_iff]; simp only [decide_eq_true_eq]; exact eq_comm
  · show bitN (decide (_ ≠ _)) = bitN (decide (_ ≠ _)); congr 1; rw [Bool.eq_iff_iff]; simp only [decide_eq_true_eq]; exact ne_comm
def ringOp (i : Nat) : Nat := [4, 6, 9, 10, 11].getD i 0
theorem vv_assoc (i : Nat) (hi : i < 5) : vv W (ringOp i) (vv W (ringOp i) x y 0) z 0 = vv W (ringOp i) x (vv W (ringOp i) y z 0) 0 := by
  unfold vv
  rw [show ∀ o a b, res W o a b (0 % 2 ^ W) = res W o a b (0 % 2 ^ W) from fun _ _ _ => rfl]
  have hx : x % 2 ^ W < 2 ^ W := Nat.mod_lt _ (two_pos W)
  have hy : y % 2 ^ W < 2 ^ W := Nat.mod_lt _ (two_pos W)
  have hz : z % 2 ^ W < 2 ^ W := Nat.mod_lt _ (two_pos W)
  have h0 : 0 % 2 ^ W < 2 ^ W := Nat.mod_lt _ (two_pos W)
  rw [Nat.mod_eq_of_lt (res_lt (o := ringOp i) h1 hx hy h0), Nat.mod_eq_of_lt (res_lt (o := ringOp i) h1 hy hz h0)]
  generalize x % 2 ^ W = a
  generalize y % 2 ^ W = b
  generalize z % 2 ^ W = c
  rcases (show i = 0 ∨ i = 1 ∨ i = 2 ∨ i = 3 ∨ i = 4 by omega) with rfl | rfl | rfl | rfl | rfl
  · show ((a + b) % 2 ^ W + c) % 2 ^ W = (a + (b + c) % 2 ^ W) % 2 ^ W
    rw [Nat.mod_add_mod, Nat.add_mod_mod, Nat.add_assoc]
  · show (a * b % 2 ^ W * c) % 2 ^ W = (a * (b * c % 2 ^ W)) % 2 ^ W
    rw [Nat.mod_mul_mod, Nat.mul_mod_mod, Nat.mul_assoc]
  · exact Nat.and_assoc _ _ _
  · exact Nat.or_assoc _ _ _
  · exact Nat.xor_assoc _ _ _
def overA (i : Nat) : Nat := [6, 9, 9, 10].getD i 0
def overB (i : Nat) : Nat := [4, 10, 11, 9].getD i 0
theorem vv_over (i : Nat) (hi : i < 4) : vv W (overA i) x (vv W (overB i) y z 0) 0 = vv W (overB i) (vv W (overA i) x y 0) (vv W (overA i) x z 0) 0 := by
  unfold vv
  have hx : x % 2 ^ W < 2 ^ W := Nat.mod_lt _ (two_pos W)
  have hy : y % 2 ^ W < 2 ^ W := Nat.mod_lt _ (two_pos W)
  have hz : z % 2 ^ W < 2 ^ W := Nat.mod_lt _ (two_pos W)
  have h0 : 0 % 2 ^ W < 2 ^ W := Nat.mod_lt _ (two_pos W)
  rw [Nat.mod_eq_of_lt (res_lt (o := overA i) h1 hx hy h0), Nat.mod_eq_of_lt (res_lt (o := overA i) h1 hx hz h0), Nat.mod_eq_of_lt (res_lt (o := overB i) h1 hy hz h0)]
  generalize x % 2 ^ W = a
  generalize y % 2 ^ W = b
  generalize z % 2 ^ W = c
  rcases (show i = 0 ∨ i = 1 ∨ i = 2 ∨ i = 3 by omega) with rfl | rfl | rfl | rfl
  · show a * ((b + c) % 2 ^ W) % 2 ^ W = (a * b % 2 ^ W + a * c % 2 ^ W) % 2 ^ W
    rw [Nat.mul_mod_mod, Nat.mul_add, ← Nat.add_mod]
  · exact Nat.and_or_distrib_left _ _ _
  · exact Nat.and_xor_distrib_left
  · exact Nat.or_and_distrib_left _ _ _
theorem vv_add0 : vv W 4 x 0 0 = x % 2 ^ W := by
  show (x % 2 ^ W + 0 % 2 ^ W) % 2 ^ W = _
  rw [Nat.zero_mod, Nat.add_zero, Nat.mod_mod]
theorem vv_mul1 : vv W 6 x 1 0 = x % 2 ^ W := by
  show x % 2 ^ W * (1 % 2 ^ W) % 2 ^ W = _
  rw [Nat.mod_eq_of_lt (a := 1) (by have := two_le h1; omega), Nat.mul_one, Nat.mod_mod]
theorem vv_xor_self : vv W 11 x x 0 = 0 := Nat.xor_self _
theorem vv_or0 : vv W 10 x 0 0 = x % 2 ^ W := by
  show x % 2 ^ W ||| 0 % 2 ^ W = _
  rw [Nat.zero_mod, Nat.or_zero]

/-! Comparisons. -/
theorem bitN_le (p : Bool) : bitN p ≤ 1 := by cases p <;> decide
theorem vv_one : vv W 17 x y 0 + vv W 15 x y 0 + vv W 17 y x 0 = 1 := by
  show bitN (decide (x % 2 ^ W < y % 2 ^ W)) + bitN (decide (x % 2 ^ W = y % 2 ^ W)) + bitN (decide (y % 2 ^ W < x % 2 ^ W)) = 1
  generalize x % 2 ^ W = a
  generalize y % 2 ^ W = b
  unfold bitN
  simp only [decide_eq_true_eq]
  split <;> split <;> split <;> omega
theorem vv_le : vv W 18 x y 0 = vv W 17 x y 0 + vv W 15 x y 0 := by
  show bitN (decide (x % 2 ^ W ≤ y % 2 ^ W)) = bitN (decide (x % 2 ^ W < y % 2 ^ W)) + bitN (decide (x % 2 ^ W = y % 2 ^ W))
  generalize x % 2 ^ W = a
  generalize y % 2 ^ W = b
  unfold bitN
  simp only [decide_eq_true_eq]
  split <;> split <;> split <;> omega
theorem vv_ne : vv W 16 x y 0 = 1 - vv W 15 x y 0 := by
  show bitN (decide (x % 2 ^ W ≠ y % 2 ^ W)) = 1 - bitN (decide (x % 2 ^ W = y % 2 ^ W))
  generalize x % 2 ^ W = a
  generalize y % 2 ^ W = b
  by_cases h : a = b <;> simp [h, bitN]
/-- A word with its highest bit turned. -/
theorem turn_top : (x ^^^ 2 ^ (W - 1)) % 2 ^ W = if x % 2 ^ W < 2 ^ (W - 1) then x % 2 ^ W + 2 ^ (W - 1) else x % 2 ^ W - 2 ^ (W - 1) := by
  have hh := two_half h1
  have hx : x % 2 ^ W < 2 ^ W := Nat.mod_lt _ (two_pos W)
  have e : (x ^^^ 2 ^ (W - 1)) % 2 ^ W = x % 2 ^ W ^^^ 2 ^ (W - 1) := by
    rw [Nat.xor_mod_two_pow, Nat.mod_eq_of_lt (a := 2 ^ (W - 1)) (by have := two_pos (W - 1); omega)]
  rw [e]
  generalize x % 2 ^ W = a at *
  have hq := two_pos (W - 1)
  by_cases hs : a < 2 ^ (W - 1)
  · rw [if_pos hs, Nat.xor_comm]
    have := Nat.two_pow_add_eq_or_of_lt hs 1
    rw [Nat.mul_one] at this
    rw [Nat.add_comm, this]
    apply Nat.eq_of_testBit_eq
    intro i
    rw [Nat.testBit_xor, Nat.testBit_or, Nat.testBit_two_pow]
    by_cases hi : W - 1 = i
    · subst hi; rw [Nat.testBit_lt_two_pow hs]; simp
    · simp [hi]
  · rw [if_neg hs]
    obtain ⟨b, rfl⟩ : ∃ b, a = 2 ^ (W - 1) + b := ⟨a - 2 ^ (W - 1), by omega⟩
    have hb : b < 2 ^ (W - 1) := by omega
    have := Nat.two_pow_add_eq_or_of_lt hb 1
    rw [Nat.mul_one] at this
    rw [Nat.add_sub_cancel_left, this]
    apply Nat.eq_of_testBit_eq
    intro i
    rw [Nat.testBit_xor, Nat.testBit_or, Nat.testBit_two_pow]
    by_cases hi : W - 1 = i
    · subst hi; rw [Nat.testBit_lt_two_pow hb]; simp
    · simp [hi]
theorem vv_slt : vv W 19 x y 0 = vv W 17 (x ^^^ 2 ^ (W - 1)) (y ^^^ 2 ^ (W - 1)) 0 := by
  show bitN (decide (sgn W (x % 2 ^ W) < sgn W (y % 2 ^ W))) = bitN (decide ((x ^^^ 2 ^ (W - 1)) % 2 ^ W < (y ^^^ 2 ^ (W - 1)) % 2 ^ W))
  rw [turn_top h1, turn_top h1]
  have hh := two_half h1
  have hx : x % 2 ^ W < 2 ^ W := Nat.mod_lt _ (two_pos W)
  have hy : y % 2 ^ W < 2 ^ W := Nat.mod_lt _ (two_pos W)
  congr 1
  rw [Bool.eq_iff_iff]
  simp only [decide_eq_true_eq]
  unfold sgn
  generalize x % 2 ^ W = a at *
  generalize y % 2 ^ W = b at *
  generalize 2 ^ W = M at *
  generalize 2 ^ (W - 1) = N at *
  by_cases p : a < N <;> by_cases q : b < N <;> simp only [p, q, if_true, if_false] <;> omega
theorem vv_sle : vv W 20 x y 0 = vv W 18 (x ^^^ 2 ^ (W - 1)) (y ^^^ 2 ^ (W - 1)) 0 := by
  show bitN (decide (sgn W (x % 2 ^ W) ≤ sgn W (y % 2 ^ W))) = bitN (decide ((x ^^^ 2 ^ (W - 1)) % 2 ^ W ≤ (y ^^^ 2 ^ (W - 1)) % 2 ^ W))
  rw [turn_top h1, turn_top h1]
  have hh := two_half h1
  have hx : x % 2 ^ W < 2 ^ W := Nat.mod_lt _ (two_pos W)
  have hy : y % 2 ^ W < 2 ^ W := Nat.mod_lt _ (two_pos W)
  congr 1
  rw [Bool.eq_iff_iff]
  simp only [decide_eq_true_eq]
  unfold sgn
  generalize x % 2 ^ W = a at *
  generalize y % 2 ^ W = b at *
  generalize 2 ^ W = M at *
  generalize 2 ^ (W - 1) = N at *
  by_cases p : a < N <;> by_cases q : b < N <;> simp only [p, q, if_true, if_false] <;> omega
theorem vv_slt_s : decide (sgn W (x % 2 ^ W) < sgn W (y % 2 ^ W)) = (vv W 19 x y 0 == 1) := by
  show _ = (bitN (decide (sgn W (x % 2 ^ W) < sgn W (y % 2 ^ W))) == 1)
  cases decide (sgn W (x % 2 ^ W) < sgn W (y % 2 ^ W)) <;> rfl
theorem vv_sle_s : decide (sgn W (x % 2 ^ W) ≤ sgn W (y % 2 ^ W)) = (vv W 20 x y 0 == 1) := by
  show _ = (bitN (decide (sgn W (x % 2 ^ W) ≤ sgn W (y % 2 ^ W))) == 1)
  cases decide (sgn W (x % 2 ^ W) ≤ sgn W (y % 2 ^ W)) <;> rfl
/-! Shifts. -/
theorem vv_sign : vv W 19 x 0 0 = bitN (decide (2 ^ (W - 1) ≤ x % 2 ^ W)) := by
  show bitN (decide (sgn W (x % 2 ^ W) < sgn W (0 % 2 ^ W))) = _
  have hq := two_pos (W - 1)
  have hh := two_half h1
  have hx : x % 2 ^ W < 2 ^ W := Nat.mod_lt _ (two_pos W)
  congr 1
  rw [Bool.eq_iff_iff, Nat.zero_mod]
  simp only [decide_eq_true_eq]
  unfold sgn
  generalize x % 2 ^ W = a at *
  generalize 2 ^ W = M at *
  generalize 2 ^ (W - 1) = N at *
  rw [if_pos (show 0 < N from hq)]
  split <;> omega
theorem vv_far (hy : W ≤ y % 2 ^ W) : vv W 12 x y 0 = 0 ∧ vv W 13 x y 0 = 0 ∧ vv W 14 x y 0 = if x % 2 ^ W < 2 ^ (W - 1) then 0 else 2 ^ W - 1 := by
  have hx : x % 2 ^ W < 2 ^ W := Nat.mod_lt _ (two_pos W)
  have d0 : ∀ n, n < 2 ^ W → n / 2 ^ (y % 2 ^ W) = 0 := fun n hn => Nat.div_eq_of_lt (Nat.lt_of_lt_of_le hn (Nat.pow_le_pow_right (by decide) hy))
  have hp := two_pos W
  refine ⟨?_, ?_, ?_⟩
  · show x % 2 ^ W * 2 ^ (y % 2 ^ W) % 2 ^ W = 0
    exact Nat.mod_eq_zero_of_dvd (Nat.dvd_trans (Nat.pow_dvd_pow 2 hy) (Nat.dvd_mul_left _ _))
  · exact d0 _ hx
  · show (if x % 2 ^ W < 2 ^ (W - 1) then x % 2 ^ W / 2 ^ (y % 2 ^ W) else 2 ^ W - 1 - (2 ^ W - 1 - x % 2 ^ W) / 2 ^ (y % 2 ^ W)) = _
    rw [d0 _ hx, d0 _ (by omega), Nat.sub_zero]
theorem pow_low {b : Nat} (hb : b < W) : 2 ^ b % 2 ^ W = 2 ^ b := Nat.mod_eq_of_lt (Nat.pow_lt_pow_right (by decide) hb)
theorem vv_shl (hy : y % 2 ^ W < W) : vv W 6 x (2 ^ (y % 2 ^ W)) 0 = vv W 12 x y 0 := by
  show x % 2 ^ W * (2 ^ (y % 2 ^ W) % 2 ^ W) % 2 ^ W = _
  rw [pow_low h1 hy]; rfl
theorem vv_shr (hy : y % 2 ^ W < W) : vv W 7 x (2 ^ (y % 2 ^ W)) 0 = vv W 13 x y 0 := by
  show (if 2 ^ (y % 2 ^ W) % 2 ^ W = 0 then 2 ^ W - 1 else x % 2 ^ W / (2 ^ (y % 2 ^ W) % 2 ^ W)) = _
  rw [pow_low h1 hy, if_neg (by have := two_pos (y % 2 ^ W); omega)]; rfl
theorem vv_sar_low (hs : x % 2 ^ W < 2 ^ (W - 1)) : vv W 14 x y 0 = vv W 13 x y 0 := by
  show (if x % 2 ^ W < 2 ^ (W - 1) then x % 2 ^ W / 2 ^ (y % 2 ^ W) else _) = _
  rw [if_pos hs]; rfl
theorem vv_sar_high (hs : ¬ x % 2 ^ W < 2 ^ (W - 1)) : vv W 2 (vv W 13 (vv W 2 x 0 0) y 0) 0 0 = vv W 14 x y 0 := by
  show 2 ^ W - 1 - vv W 13 (vv W 2 x 0 0) y 0 % 2 ^ W = if x % 2 ^ W < 2 ^ (W - 1) then _ else 2 ^ W - 1 - (2 ^ W - 1 - x % 2 ^ W) / 2 ^ (y % 2 ^ W)
  rw [if_neg hs, vv_mod h1]
  show 2 ^ W - 1 - (vv W 2 x 0 0 % 2 ^ W) / 2 ^ (y % 2 ^ W) = _
  rw [vv_mod h1]; rfl
/-! Parts. -/
theorem vv_same (o x' y' z' : Nat) (hx : x' % 2 ^ W = x % 2 ^ W) (hy : y' % 2 ^ W = y % 2 ^ W) (hz : z' % 2 ^ W = z % 2 ^ W) : vv W o x' y' z' = vv W o x y z := by
  unfold vv; rw [hx, hy, hz]
end
end Go.Proofs.YtldcekejbnhloaaDoor.Words
