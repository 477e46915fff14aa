/-
  Layer word, plain: words of a width, what each operator makes of them, and the laws of these numbers.
-/
import Derived.WalkKit
import Derived.ProofKit
namespace Go.Proofs.YtldcekejbnhloaaDoor.Words
open Go.RowKit

/-! Numbers modulo powers of two. -/
theorem two64 : (2 : Nat) ^ 64 = 18446744073709551616 := by decide
theorem two_pos (W : Nat) : 0 < 2 ^ W := Nat.pow_pos (by decide)
theorem two_half {W : Nat} (h : 1 ≤ W) : 2 ^ W = 2 * 2 ^ (W - 1) := by
  obtain ⟨k, rfl⟩ : ∃ k, W = k + 1 := ⟨W - 1, by omega⟩
  rw [Nat.add_sub_cancel, Nat.pow_succ, Nat.mul_comm]
theorem two_le64 {W : Nat} (h : W ≤ 64) : 2 ^ W ≤ 18446744073709551616 := by rw [← two64]; exact Nat.pow_le_pow_right (by decide) h
theorem mod64 {W : Nat} (h : W ≤ 64) (x : Nat) : x % 18446744073709551616 % 2 ^ W = x % 2 ^ W := by
  rw [← two64]; exact Nat.mod_mod_of_dvd _ (Nat.pow_dvd_pow 2 h)
theorem imod64 {W : Nat} (h : W ≤ 64) (x : Int) : x % 18446744073709551616 % (2 ^ W : Nat) = x % (2 ^ W : Nat) := by
  have : ((2 ^ W : Nat) : Int) ∣ 18446744073709551616 := by
    have h2 := Int.natCast_dvd_natCast.2 (Nat.pow_dvd_pow 2 h)
    rw [two64] at h2; exact h2
  exact Int.emod_emod_of_dvd _ this
theorem wrapU (x : Int) : IntKind.u64.wrap x = x % 18446744073709551616 := by simp [IntKind.wrap, IntKind.bits, IntKind.signed]
/-- A wrapped number is one of 64 bits whose lowest W are those of the number. -/
theorem wrap_low {W : Nat} (h : W ≤ 64) (x : Int) (r : Nat) (hr : ((r : Nat) : Int) = x % (2 ^ W : Nat)) : ∃ n : Nat, IntKind.u64.wrap x = n ∧ n < 18446744073709551616 ∧ n % 2 ^ W = r := by
  have h0 : 0 ≤ x % 18446744073709551616 := Int.emod_nonneg _ (by decide)
  have h1 : x % 18446744073709551616 < 18446744073709551616 := Int.emod_lt_of_pos _ (by decide)
  refine ⟨(x % 18446744073709551616).toNat, by rw [wrapU]; omega, by omega, ?_⟩
  apply Int.ofNat.inj
  show (((x % 18446744073709551616).toNat % 2 ^ W : Nat) : Int) = (r : Int)
  rw [Int.natCast_emod, Int.toNat_of_nonneg h0, imod64 h, hr]
theorem wrap_nat (n : Nat) (h : n < 18446744073709551616) : IntKind.u64.wrap (n : Int) = n := by rw [wrapU]; omega

theorem bv (n : Nat) (h : n < 18446744073709551616) : (BitVec.ofInt 64 (n : Int)).toNat = n := by
  rw [BitVec.ofInt_natCast, BitVec.toNat_ofNat, Nat.mod_eq_of_lt (by rw [two64]; exact h)]
theorem bits_and (a b : Nat) (ha : a < 18446744073709551616) (hb : b < 18446744073709551616) : bits .and .u64 a b = ((a &&& b : Nat) : Int) := by
  have hl : a &&& b < 18446744073709551616 := by rw [← two64] at *; exact Nat.and_lt_two_pow _ hb
  show IntKind.u64.wrap ((BitVec.ofInt 64 (a : Int) &&& BitVec.ofInt 64 (b : Int)).toNat : Int) = _
  rw [BitVec.toNat_and, bv a ha, bv b hb, wrap_nat _ hl]
theorem bits_or (a b : Nat) (ha : a < 18446744073709551616) (hb : b < 18446744073709551616) : bits .or .u64 a b = ((a ||| b : Nat) : Int) := by
  have hl : a ||| b < 18446744073709551616 := by rw [← two64] at *; exact Nat.or_lt_two_pow ha hb
  show IntKind.u64.wrap ((BitVec.ofInt 64 (a : Int) ||| BitVec.ofInt 64 (b : Int)).toNat : Int) = _
  rw [BitVec.toNat_or, bv a ha, bv b hb, wrap_nat _ hl]
theorem bits_xor (a b : Nat) (ha : a < 18446744073709551616) (hb : b < 18446744073709551616) : bits .xor .u64 a b = ((a ^^^ b : Nat) : Int) := by
  have hl : a ^^^ b < 18446744073709551616 := by rw [← two64] at *; exact Nat.xor_lt_two_pow ha hb
  show IntKind.u64.wrap ((BitVec.ofInt 64 (a : Int) ^^^ BitVec.ofInt 64 (b : Int)).toNat : Int) = _
  rw [BitVec.toNat_xor, bv a ha, bv b hb, wrap_nat _ hl]
theorem bits_not (a : Nat) (ha : a < 18446744073709551616) : bits .xor .u64 IntKind.u64.max a = ((18446744073709551615 - a : Nat) : Int) := by
  show IntKind.u64.wrap ((BitVec.ofInt 64 (18446744073709551615 : Int) ^^^ BitVec.ofInt 64 (a : Int)).toNat : Int) = _
  have e : BitVec.ofInt 64 (18446744073709551615 : Int) = BitVec.allOnes 64 := by decide
  rw [e, BitVec.allOnes_xor, BitVec.toNat_not, bv a ha]
  exact wrap_nat _ (by omega)

/-! What the operators make of words. -/
/-- A word of width W as a signed number. -/
def sgn (W a : Nat) : Int := if a < 2 ^ (W - 1) then (a : Int) else (a : Int) - (2 ^ W : Nat)
def bitN (p : Bool) : Nat := if p then 1 else 0
/-- The result of the operator o for the words a, b, c. -/
def res (W o a b c : Nat) : Nat :=
  match o with
  | 2 => 2 ^ W - 1 - a
  | 3 => (2 ^ W - a) % 2 ^ W
  | 4 => (a + b) % 2 ^ W
  | 5 => (a + (2 ^ W - b)) % 2 ^ W
  | 6 => a * b % 2 ^ W
  | 7 => if b = 0 then 2 ^ W - 1 else a / b
  | 8 => a % b
  | 9 => a &&& b
  | 10 => a ||| b
  | 11 => a ^^^ b
  | 12 => a * 2 ^ b % 2 ^ W
  | 13 => a / 2 ^ b
  | 14 => if a < 2 ^ (W - 1) then a / 2 ^ b else 2 ^ W - 1 - (2 ^ W - 1 - a) / 2 ^ b
  | 15 => bitN (decide (a = b))
  | 16 => bitN (decide (a ≠ b))
  | 17 => bitN (decide (a < b))
  | 18 => bitN (decide (a ≤ b))
  | 19 => bitN (decide (sgn W a < sgn W b))
  | 20 => bitN (decide (sgn W a ≤ sgn W b))
  | _ => if a = 0 then c else b
theorem bitN_lt (W : Nat) (h : 1 ≤ W) (p : Bool) : bitN p < 2 ^ W := by
  have := two_half h; have := two_pos (W - 1)
  unfold bitN; split <;> omega
/-- Results are words. -/
theorem res_lt {W o a b c : Nat} (hW : 1 ≤ W) (ha : a < 2 ^ W) (hb : b < 2 ^ W) (hc : c < 2 ^ W) : res W o a b c < 2 ^ W := by
  have hp := two_pos W
  unfold res
  split
  all_goals first | exact Nat.mod_lt _ hp | exact bitN_lt W hW _ | exact Nat.and_lt_two_pow _ hb | exact Nat.or_lt_two_pow ha hb | exact Nat.xor_lt_two_pow ha hb | omega | skip
  · split
    · omega
    · exact Nat.lt_of_le_of_lt (Nat.div_le_self _ _) ha
  · exact Nat.lt_of_le_of_lt (Nat.mod_le _ _) ha
  · exact Nat.lt_of_le_of_lt (Nat.div_le_self _ _) ha
  · split
    · exact Nat.lt_of_le_of_lt (Nat.div_le_self _ _) ha
    · exact Nat.lt_of_le_of_lt (Nat.sub_le _ _) (by omega)
  · split <;> assumption

/-! The forms that the walks show. -/
theorem low_and {W : Nat} (h1 : 1 ≤ W) (h : W ≤ 64) (v : Nat) (hv : v < 18446744073709551616) : bits .and .u64 v ((18446744073709551615 : Int) / 2 ^ min ((64 : Int) - (W : Int)).toNat 64) = ((v % 2 ^ W : Nat) : Int) := by
  have e : min ((64 : Int) - (W : Int)).toNat 64 = 64 - W := by omega
  have hd : 18446744073709551615 / 2 ^ (64 - W) = 2 ^ W - 1 := by
    have hm : 2 ^ W * 2 ^ (64 - W) = 18446744073709551616 := by rw [← Nat.pow_add, show W + (64 - W) = 64 by omega, two64]
    have hp := two_pos (64 - W)
    have hq := two_pos W
    rw [Nat.div_eq_iff hp]
    obtain ⟨x, hx⟩ : ∃ x, 2 ^ W = x + 1 := ⟨2 ^ W - 1, by omega⟩
    rw [hx] at hm ⊢
    rw [Nat.add_mul] at hm
    rw [Nat.add_sub_cancel]
    omega
  rw [e]
  have hi : (18446744073709551615 : Int) / 2 ^ (64 - W) = ((2 ^ W - 1 : Nat) : Int) := by
    rw [← hd, Int.natCast_ediv]
    rfl
  have hq := two_le64 h
  have hq0 := two_pos W
  rw [hi, bits_and v _ hv (by omega), Nat.and_two_pow_sub_one_eq_mod]
theorem div_min (a b : Nat) (ha : a < 18446744073709551616) : a / 2 ^ min b 64 = a / 2 ^ b := by
  by_cases h : b ≤ 64
  · rw [Nat.min_eq_left h]
  · rw [Nat.min_eq_right (by omega), Nat.div_eq_of_lt (by rw [two64]; exact ha), Nat.div_eq_of_lt]
    exact Nat.lt_of_lt_of_le ha (by rw [← two64]; exact Nat.pow_le_pow_right (by decide) (by omega))
theorem neg_div (y m : Nat) (hm : 0 < m) : (-(y : Int) - 1) / (m : Int) = -((y / m : Nat) : Int) - 1 := by
  have h1 : -(y : Int) - 1 = Int.negSucc y := by rw [Int.negSucc_eq]; omega
  rw [h1, Int.negSucc_ediv _ (by omega)]
  show -((y : Int) / (m : Int) + 1) = _
  rw [← Int.natCast_ediv]
  omega
/-- A signed word divided by a power, rounded down; the lowest bits of it. -/
theorem sgn_div {W : Nat} (h : W ≤ 64) (a b : Nat) (ha : a < 2 ^ W) : ((res W 14 a b 0 : Nat) : Int) = sgn W a / 2 ^ min b 64 % (2 ^ W : Nat) := by
  have h64 := two_le64 h
  have hp : ∀ n, ((2 : Int) ^ n) = ((2 ^ n : Nat) : Int) := fun n => by rw [Int.natCast_pow]; rfl
  have hq := two_pos (min b 64)
  rw [hp]
  show (((if a < 2 ^ (W - 1) then a / 2 ^ b else 2 ^ W - 1 - (2 ^ W - 1 - a) / 2 ^ b) : Nat) : Int) = _
  unfold sgn
  by_cases hs : a < 2 ^ (W - 1)
  · rw [if_pos hs, if_pos hs, ← div_min a b (by omega), ← Int.natCast_ediv, ← Int.natCast_emod, Nat.mod_eq_of_lt (Nat.lt_of_le_of_lt (Nat.div_le_self _ _) ha)]
  · rw [if_neg hs, if_neg hs, ← div_min (2 ^ W - 1 - a) b (by omega)]
    have e : (a : Int) - ((2 ^ W : Nat) : Int) = -((2 ^ W - 1 - a : Nat) : Int) - 1 := by omega
    rw [e, neg_div _ _ hq]
    have hy : (2 ^ W - 1 - a) / 2 ^ min b 64 ≤ 2 ^ W - 1 - a := Nat.div_le_self _ _
    generalize (2 ^ W - 1 - a) / 2 ^ min b 64 = y at hy ⊢
    generalize 2 ^ W = M at *
    rw [← Int.add_mul_emod_self_left _ (M : Int) 1, Int.emod_eq_of_lt (by omega) (by omega)]
    omega
theorem signed_form {W : Nat} (h1 : 1 ≤ W) (h : W ≤ 64) (a : Nat) (ha : a < 2 ^ W) : IntKind.i64.wrap (IntKind.u64.wrap ((a : Int) * 2 ^ min ((64 : Int) - (W : Int)).toNat 64)) / 2 ^ min ((64 : Int) - (W : Int)).toNat 64 = sgn W a := by
  have e : min ((64 : Int) - (W : Int)).toNat 64 = 64 - W := by omega
  have hp : ∀ n, ((2 : Int) ^ n) = ((2 ^ n : Nat) : Int) := fun n => by rw [Int.natCast_pow]; rfl
  rw [e, hp]
  have hm : 2 ^ W * 2 ^ (64 - W) = 18446744073709551616 := by rw [← Nat.pow_add, show W + (64 - W) = 64 by omega, two64]
  have hh : 2 ^ (W - 1) * 2 ^ (64 - W) = 9223372036854775808 := by rw [← Nat.pow_add, show W - 1 + (64 - W) = 63 by omega]
  have hq := two_pos (64 - W)
  unfold sgn
  generalize 2 ^ W = M at *
  generalize 2 ^ (W - 1) = M1 at *
  generalize 2 ^ (64 - W) = m at *
  have hlt : a * m < 18446744073709551616 := by rw [← hm]; exact Nat.mul_lt_mul_of_pos_right ha hq
  rw [← Int.natCast_mul, wrap_nat _ hlt]
  by_cases hs : a < M1
  · have hl1 : a * m < 9223372036854775808 := by rw [← hh]; exact Nat.mul_lt_mul_of_pos_right hs hq
    have hw : IntKind.i64.wrap ((a * m : Nat) : Int) = ((a * m : Nat) : Int) := by simp [IntKind.wrap, IntKind.bits, IntKind.signed]; omega
    rw [if_pos hs, hw, ← Int.natCast_ediv, Nat.mul_div_cancel _ hq]
  · have hl1 : 9223372036854775808 ≤ a * m := by rw [← hh]; exact Nat.mul_le_mul_right _ (by omega)
    have hw : IntKind.i64.wrap ((a * m : Nat) : Int) = ((a * m : Nat) : Int) - 18446744073709551616 := by simp [IntKind.wrap, IntKind.bits, IntKind.signed]; omega
    rw [if_neg hs, hw]
    have e2 : ((a * m : Nat) : Int) - 18446744073709551616 = ((a : Int) - (M : Int)) * (m : Int) := by
      rw [Int.sub_mul, ← Int.natCast_mul, ← Int.natCast_mul, hm]; rfl
    rw [e2, Int.mul_ediv_cancel _ (by omega)]
end Go.Proofs.YtldcekejbnhloaaDoor.Words
