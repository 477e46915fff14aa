/-
  Layer word: the contracts of the functions that calculate, each answer as a number of 64 bits whose lowest ones are the result.
-/
import Derived.Test.YtldcekejbnhloaaDoorWrdA
import Derived.Test.YtldcekejbnhloaaDoorRows
import Derived.Lib.Hide
import Derived.Below
import Derived.KernelRfl
import Derived.Laws.Shifts
import Derived.BigQuiet
import Derived.IntWalk
set_option linter.unusedSectionVars false
set_option linter.unusedVariables false
namespace Go.Proofs.YtldcekejbnhloaaDoor.Words
open Go.RowKit Go.Lib
open Go.RowKit (Below)

theorem ret_int {k : IntKind} {a b : Int} (h : a = b) : Ending.returned (.int k a) = .returned (.int k b) := by rw [h]
def W2 (W a : Nat) : Value := .agg #[.int .i64 (W : Int), .int .u64 (a : Int)]
/-- The answer is a number of 64 bits whose lowest W bits are the operator's result. -/
def Raw (W o a b c : Nat) (e : Ending) : Prop := ∃ r : Nat, e = .returned (.int .u64 (r : Int)) ∧ r < 18446744073709551616 ∧ r % 2 ^ W = res W o a b c
theorem Raw.wrap {W o a b c : Nat} (h : W ≤ 64) (x : Int) (hx : ((res W o a b c : Nat) : Int) = x % (2 ^ W : Nat)) : Raw W o a b c (.returned (.int .u64 (IntKind.u64.wrap x))) := by
  obtain ⟨n, h1, h2, h3⟩ := wrap_low h x _ hx
  exact ⟨n, by rw [h1], h2, h3⟩
theorem Raw.nat {W o a b c r : Nat} (h : r < 18446744073709551616) (hr : r % 2 ^ W = res W o a b c) : Raw W o a b c (.returned (.int .u64 (r : Int))) := ⟨r, rfl, h, hr⟩
theorem Raw.word {W o a b c r : Nat} (h : W ≤ 64) (hr : r < 2 ^ W) (he : r = res W o a b c) : Raw W o a b c (.returned (.int .u64 (r : Int))) := by
  have := two_le64 h
  exact ⟨r, rfl, by omega, by rw [Nat.mod_eq_of_lt hr, he]⟩

section
variable {W a b c : Nat} (h1 : 1 ≤ W) (h : W ≤ 64) (ha : a < 2 ^ W) (hb : b < 2 ^ W) (w : World)
include h ha
theorem ro_not : Raw W 2 a b c (.returned (.int .u64 (bits .xor .u64 IntKind.u64.max a))) := by
  have h64 := two_le64 h
  rw [bits_not a (by omega)]
  refine Raw.nat (by omega) ?_
  show _ = 2 ^ W - 1 - a
  have hm : 2 ^ W * 2 ^ (64 - W) = 18446744073709551616 := by rw [← Nat.pow_add, show W + (64 - W) = 64 by omega, two64]
  have hq := two_pos (64 - W)
  generalize 2 ^ W = M at *
  obtain ⟨m, hm2⟩ : ∃ m, 2 ^ (64 - W) = m + 1 := ⟨2 ^ (64 - W) - 1, by omega⟩
  rw [hm2, Nat.mul_add] at hm
  rw [show 18446744073709551615 - a = M * m + (M - 1 - a) by omega, Nat.mul_add_mod, Nat.mod_eq_of_lt (by omega)]
theorem ro_neg : Raw W 3 a b c (.returned (.int .u64 (IntKind.u64.wrap (-(a : Int))))) := by
  refine Raw.wrap h _ ?_
  show (((2 ^ W - a) % 2 ^ W : Nat) : Int) = _
  rw [Int.natCast_emod, Int.natCast_sub (by omega), ← Int.add_mul_emod_self_left (-(a : Int)) ((2 ^ W : Nat) : Int) 1]
  congr 1
  omega
theorem ro_add : Raw W 4 a b c (.returned (.int .u64 (IntKind.u64.wrap ((a : Int) + b)))) := by
  refine Raw.wrap h _ ?_
  show (((a + b) % 2 ^ W : Nat) : Int) = _
  rw [Int.natCast_emod, Int.natCast_add]
include hb in
theorem ro_sub : Raw W 5 a b c (.returned (.int .u64 (IntKind.u64.wrap ((a : Int) - b)))) := by
  refine Raw.wrap h _ ?_
  show (((a + (2 ^ W - b)) % 2 ^ W : Nat) : Int) = _
  rw [Int.natCast_emod, Int.natCast_add, Int.natCast_sub (by omega), ← Int.add_mul_emod_self_left ((a : Int) - b) ((2 ^ W : Nat) : Int) 1]
  congr 1
  omega
theorem ro_mul : Raw W 6 a b c (.returned (.int .u64 (IntKind.u64.wrap ((a : Int) * b)))) := by
  refine Raw.wrap h _ ?_
  show ((a * b % 2 ^ W : Nat) : Int) = _
  rw [Int.natCast_emod, Int.natCast_mul]
theorem ro_div (h0 : b ≠ 0) : Raw W 7 a b c (.returned (.int .u64 (IntKind.u64.wrap ((a : Int) / b)))) := by
  refine Raw.wrap h _ ?_
  show (((if b = 0 then 2 ^ W - 1 else a / b) : Nat) : Int) = _
  rw [if_neg h0, ← Int.natCast_ediv, ← Int.natCast_emod, Nat.mod_eq_of_lt (Nat.lt_of_le_of_lt (Nat.div_le_self _ _) ha)]
theorem ro_div0 (h0 : b = 0) : Raw W 7 a b c (.returned (.int .u64 18446744073709551615)) := by
  refine Raw.nat (r := 18446744073709551615) (by decide) ?_
  show _ = if b = 0 then 2 ^ W - 1 else a / b
  have hm : 2 ^ W * 2 ^ (64 - W) = 18446744073709551616 := by rw [← Nat.pow_add, show W + (64 - W) = 64 by omega, two64]
  have hq := two_pos (64 - W)
  rw [if_pos h0]
  generalize 2 ^ W = M at *
  obtain ⟨m, hm2⟩ : ∃ m, 2 ^ (64 - W) = m + 1 := ⟨2 ^ (64 - W) - 1, by omega⟩
  rw [hm2, Nat.mul_add] at hm
  rw [show 18446744073709551615 = M * m + (M - 1) by omega, Nat.mul_add_mod, Nat.mod_eq_of_lt (by omega)]
theorem ro_rem : Raw W 8 a b c (.returned (.int .u64 ((a : Int) % b))) := by
  rw [← Int.natCast_emod]
  exact Raw.word h (Nat.lt_of_le_of_lt (Nat.mod_le _ _) ha) rfl
include hb in
theorem ro_and : Raw W 9 a b c (.returned (.int .u64 (bits .and .u64 a b))) := by
  have h64 := two_le64 h
  rw [bits_and a b (by omega) (by omega)]
  exact Raw.word h (Nat.and_lt_two_pow _ hb) rfl
include hb in
theorem ro_or : Raw W 10 a b c (.returned (.int .u64 (bits .or .u64 a b))) := by
  have h64 := two_le64 h
  rw [bits_or a b (by omega) (by omega)]
  exact Raw.word h (Nat.or_lt_two_pow ha hb) rfl
include hb in
theorem ro_xor : Raw W 11 a b c (.returned (.int .u64 (bits .xor .u64 a b))) := by
  have h64 := two_le64 h
  rw [bits_xor a b (by omega) (by omega)]
  exact Raw.word h (Nat.xor_lt_two_pow ha hb) rfl
theorem ro_shl : Raw W 12 a b c (.returned (.int .u64 (IntKind.u64.wrap ((a : Int) * 2 ^ min b 64)))) := by
  refine Raw.wrap h _ ?_
  show ((a * 2 ^ b % 2 ^ W : Nat) : Int) = _
  have hp : ∀ n, ((2 : Int) ^ n) = ((2 ^ n : Nat) : Int) := fun n => by rw [Int.natCast_pow]; rfl
  rw [hp, ← Int.natCast_mul, ← Int.natCast_emod]
  congr 1
  by_cases hl : b ≤ 64
  · rw [Nat.min_eq_left hl]
  · have d : ∀ n, 64 ≤ n → a * 2 ^ n % 2 ^ W = 0 := fun n hn => Nat.mod_eq_zero_of_dvd (Nat.dvd_trans (Nat.pow_dvd_pow 2 (by omega)) (Nat.dvd_mul_left _ _))
    rw [Nat.min_eq_right (by omega), d _ (by omega), d _ (by omega)]
theorem ro_shr : Raw W 13 a b c (.returned (.int .u64 ((a : Int) / 2 ^ min b 64))) := by
  have h64 := two_le64 h
  have hp : ∀ n, ((2 : Int) ^ n) = ((2 ^ n : Nat) : Int) := fun n => by rw [Int.natCast_pow]; rfl
  rw [hp, ← Int.natCast_ediv, div_min a b (by omega)]
  exact Raw.word h (Nat.lt_of_le_of_lt (Nat.div_le_self _ _) ha) rfl
theorem ro_sar : Raw W 14 a b c (.returned (.int .u64 (IntKind.u64.wrap (sgn W a / 2 ^ min b 64)))) := Raw.wrap h _ (sgn_div h a b ha)
end
section
variable {W a b c : Nat} (h1 : 1 ≤ W) (h : W ≤ 64) (ha : a < 2 ^ W) (hb : b < 2 ^ W) (hc : c < 2 ^ W) (w : World)
theorem truth_is (p : Bool) (w : World) : Calls Tryd.prog 62 #[.bool p] w fun e w' => e = .returned (.int .u64 (bitN p : Nat)) ∧ w = w' := by
  cases p
  all_goals
    go_enter Tryd.func62, Tryd.ntmps62
    go_wp2
    go_ret
    exact ⟨rfl, rfl⟩
include h1 h
theorem ro_bit (o : Nat) (p : Bool) (hp : bitN p = res W o a b c) : Raw W o a b c (.returned (.int .u64 ((bitN p : Nat) : Int))) := Raw.word h (bitN_lt W h1 p) hp
theorem ro_eq : Raw W 15 a b c (.returned (.int .u64 ((bitN ((a : Int) == (b : Int)) : Nat) : Int))) := ro_bit h1 h 15 _ (by show _ = bitN (decide (a = b)); congr 1; rw [Bool.eq_iff_iff]; simp; omega)
theorem ro_ne : Raw W 16 a b c (.returned (.int .u64 ((bitN ((a : Int) != (b : Int)) : Nat) : Int))) := ro_bit h1 h 16 _ (by show _ = bitN (decide (a ≠ b)); congr 1; rw [Bool.eq_iff_iff]; simp; omega)
theorem ro_lt : Raw W 17 a b c (.returned (.int .u64 ((bitN (decide (a < b)) : Nat) : Int))) := ro_bit h1 h 17 _ rfl
theorem ro_le : Raw W 18 a b c (.returned (.int .u64 ((bitN (decide (a ≤ b)) : Nat) : Int))) := ro_bit h1 h 18 _ rfl
include ha
theorem m_not : Calls Tryd.prog 40 #[W2 W a] w fun e w' => Raw W 2 a b c e ∧ Below w.heap.size w w' := by
  have HR := Lib.hid (ro_not (b := b) (c := c) h ha)
  unfold W2
  clear h1 h ha
  go_enter Tryd.func40, Tryd.ntmps40
  go_wp2
  go_ret
  exact ⟨HR.out, (Below.refl _ _).alloc (Nat.le_refl _) _⟩
theorem m_neg : Calls Tryd.prog 41 #[W2 W a] w fun e w' => Raw W 3 a b c e ∧ Below w.heap.size w w' := by
  have HR := Lib.hid (ro_neg (b := b) (c := c) h ha)
  unfold W2
  clear h1 h ha
  go_enter Tryd.func41, Tryd.ntmps41
  go_wp2
  go_ret
  exact ⟨HR.out, (Below.refl _ _).alloc (Nat.le_refl _) _⟩
include hb
theorem m_add : Calls Tryd.prog 42 #[W2 W a, W2 W b] w fun e w' => Raw W 4 a b c e ∧ Below w.heap.size w w' := by
  have HR := Lib.hid (ro_add (b := b) (c := c) h ha)
  unfold W2
  clear h1 h ha hb
  go_enter Tryd.func42, Tryd.ntmps42
  go_wp2
  go_ret
  exact ⟨HR.out, ((Below.refl _ _).alloc (Nat.le_refl _) _).alloc (by simp) _⟩
theorem m_sub : Calls Tryd.prog 43 #[W2 W a, W2 W b] w fun e w' => Raw W 5 a b c e ∧ Below w.heap.size w w' := by
  have HR := Lib.hid (ro_sub (c := c) h ha hb)
  unfold W2
  clear h1 h ha hb
  go_enter Tryd.func43, Tryd.ntmps43
  go_wp2
  go_ret
  exact ⟨HR.out, ((Below.refl _ _).alloc (Nat.le_refl _) _).alloc (by simp) _⟩
theorem m_mul : Calls Tryd.prog 44 #[W2 W a, W2 W b] w fun e w' => Raw W 6 a b c e ∧ Below w.heap.size w w' := by
  have HR := Lib.hid (ro_mul (b := b) (c := c) h ha)
  unfold W2
  clear h1 h ha hb
  go_enter Tryd.func44, Tryd.ntmps44
  go_wp2
  go_ret
  exact ⟨HR.out, ((Below.refl _ _).alloc (Nat.le_refl _) _).alloc (by simp) _⟩
theorem m_and : Calls Tryd.prog 47 #[W2 W a, W2 W b] w fun e w' => Raw W 9 a b c e ∧ Below w.heap.size w w' := by
  have HR := Lib.hid (ro_and (c := c) h ha hb)
  unfold W2
  clear h1 h ha hb
  go_enter Tryd.func47, Tryd.ntmps47
  go_wp2
  go_ret
  exact ⟨HR.out, ((Below.refl _ _).alloc (Nat.le_refl _) _).alloc (by simp) _⟩
theorem m_or : Calls Tryd.prog 48 #[W2 W a, W2 W b] w fun e w' => Raw W 10 a b c e ∧ Below w.heap.size w w' := by
  have HR := Lib.hid (ro_or (c := c) h ha hb)
  unfold W2
  clear h1 h ha hb
  go_enter Tryd.func48, Tryd.ntmps48
  go_wp2
  go_ret
  exact ⟨HR.out, ((Below.refl _ _).alloc (Nat.le_refl _) _).alloc (by simp) _⟩
theorem m_xor : Calls Tryd.prog 49 #[W2 W a, W2 W b] w fun e w' => Raw W 11 a b c e ∧ Below w.heap.size w w' := by
  have HR := Lib.hid (ro_xor (c := c) h ha hb)
  unfold W2
  clear h1 h ha hb
  go_enter Tryd.func49, Tryd.ntmps49
  go_wp2
  go_ret
  exact ⟨HR.out, ((Below.refl _ _).alloc (Nat.le_refl _) _).alloc (by simp) _⟩
theorem m_shl : Calls Tryd.prog 50 #[W2 W a, W2 W b] w fun e w' => Raw W 12 a b c e ∧ Below w.heap.size w w' := by
  have HR := Lib.hid (ro_shl (b := b) (c := c) h ha)
  unfold W2
  clear h1 h ha hb
  go_enter Tryd.func50, Tryd.ntmps50
  go_wp2
  go_ret
  exact ⟨HR.out, ((Below.refl _ _).alloc (Nat.le_refl _) _).alloc (by simp) _⟩
theorem m_shr : Calls Tryd.prog 51 #[W2 W a, W2 W b] w fun e w' => Raw W 13 a b c e ∧ Below w.heap.size w w' := by
  have HR := Lib.hid (ro_shr (b := b) (c := c) h ha)
  unfold W2
  clear h1 h ha hb
  go_enter Tryd.func51, Tryd.ntmps51
  go_wp2
  go_ret
  exact ⟨HR.out, ((Below.refl _ _).alloc (Nat.le_refl _) _).alloc (by simp) _⟩
theorem m_eq : Calls Tryd.prog 53 #[W2 W a, W2 W b] w fun e w' => Raw W 15 a b c e ∧ Below w.heap.size w w' := by
  have HR := Lib.hid (ro_eq (c := c) h1 h (a := a) (b := b))
  unfold W2
  clear h1 h ha hb
  go_enter Tryd.func53, Tryd.ntmps53
  go_wp2_with (go_at_call 62; refine (truth_is _ _).mono ?_; rintro e w' ⟨rfl, rfl⟩)
  go_ret
  exact ⟨HR.out, ((Below.refl _ _).alloc (Nat.le_refl _) _).alloc (by simp) _⟩
theorem m_ne : Calls Tryd.prog 54 #[W2 W a, W2 W b] w fun e w' => Raw W 16 a b c e ∧ Below w.heap.size w w' := by
  have HR := Lib.hid (ro_ne (c := c) h1 h (a := a) (b := b))
  unfold W2
  clear h1 h ha hb
  go_enter Tryd.func54, Tryd.ntmps54
  go_wp2_with (go_at_call 62; refine (truth_is _ _).mono ?_; rintro e w' ⟨rfl, rfl⟩)
  go_ret
  exact ⟨HR.out, ((Below.refl _ _).alloc (Nat.le_refl _) _).alloc (by simp) _⟩
theorem m_lt : Calls Tryd.prog 55 #[W2 W a, W2 W b] w fun e w' => Raw W 17 a b c e ∧ Below w.heap.size w w' := by
  have HR := Lib.hid (ro_lt (c := c) h1 h (a := a) (b := b))
  unfold W2
  clear h1 h ha hb
  go_enter Tryd.func55, Tryd.ntmps55
  go_wp2_with (go_at_call 62; refine (truth_is _ _).mono ?_; rintro e w' ⟨rfl, rfl⟩)
  go_ret
  exact ⟨HR.out, ((Below.refl _ _).alloc (Nat.le_refl _) _).alloc (by simp) _⟩
theorem m_le : Calls Tryd.prog 56 #[W2 W a, W2 W b] w fun e w' => Raw W 18 a b c e ∧ Below w.heap.size w w' := by
  have HR := Lib.hid (ro_le (c := c) h1 h (a := a) (b := b))
  unfold W2
  clear h1 h ha hb
  go_enter Tryd.func56, Tryd.ntmps56
  go_wp2_with (go_at_call 62; refine (truth_is _ _).mono ?_; rintro e w' ⟨rfl, rfl⟩)
  go_ret
  exact ⟨HR.out, ((Below.refl _ _).alloc (Nat.le_refl _) _).alloc (by simp) _⟩
theorem m_div : Calls Tryd.prog 45 #[W2 W a, W2 W b] w fun e w' => Raw W 7 a b c e ∧ Below w.heap.size w w' := by
  unfold W2
  by_cases h0 : b = 0
  · have HR := Lib.hid (ro_div0 (c := c) h ha h0)
    clear h1 h ha hb
    go_enter Tryd.func45, Tryd.ntmps45
    go_wp2
    go_ret
    exact ⟨HR.out, ((Below.refl _ _).alloc (Nat.le_refl _) _).alloc (by simp) _⟩
  · have HR := Lib.hid (ro_div (c := c) h ha h0)
    clear h1 h ha hb
    go_enter Tryd.func45, Tryd.ntmps45
    go_wp2
    go_ret
    exact ⟨HR.out, ((Below.refl _ _).alloc (Nat.le_refl _) _).alloc (by simp) _⟩
theorem m_rem : Calls Tryd.prog 46 #[W2 W a, W2 W b] w fun e w' => Raw W 8 a b c e ∧ Below w.heap.size w w' := by
  unfold W2
  by_cases h0 : b = 0
  · have HR := Lib.hid (show Raw W 8 a b c (.returned (.int .u64 (a : Int))) from Raw.word h ha (by show a = a % b; rw [h0, Nat.mod_zero]))
    clear h1 h ha hb
    go_enter Tryd.func46, Tryd.ntmps46
    go_wp2
    go_ret
    exact ⟨HR.out, ((Below.refl _ _).alloc (Nat.le_refl _) _).alloc (by simp) _⟩
  · have HR := Lib.hid (ro_rem (b := b) (c := c) h ha)
    clear h1 h ha hb
    go_enter Tryd.func46, Tryd.ntmps46
    go_wp2
    go_ret
    exact ⟨HR.out, ((Below.refl _ _).alloc (Nat.le_refl _) _).alloc (by simp) _⟩
theorem m_signed : Calls Tryd.prog 34 #[W2 W a] w fun e w' => e = .returned (.int .i64 (sgn W a)) ∧ Below w.heap.size w w' := by
  have hf := signed_form h1 h a ha
  rw [show min ((64 : Int) - (W : Int)).toNat 64 = 64 - W by omega, IntWalk.i64_left] at hf
  have HR := Lib.hid hf
  clear hf
  have hw : IntKind.i64.wrap ((64 : Int) - (W : Int)) = 64 - (W : Int) := by simp [IntKind.wrap, IntKind.bits, IntKind.signed]; omega
  have hs : ¬ (64 : Int) - (W : Int) < 0 := by omega
  have hs2 : (0 : Int) ≤ (64 : Int) - (W : Int) := by omega
  unfold W2
  clear ha hb
  go_enter Tryd.func34, Tryd.ntmps34
  go_wp2
  go_ret
  refine ⟨?_, (Below.refl _ _).alloc (Nat.le_refl _) _⟩
  show Ending.returned (.int .i64 (wrap64 (IntKind.u64.wrap ((a : Int) * 2 ^ (64 - W))) / 2 ^ (64 - W))) = _
  exact ret_int HR.out
include hc
theorem m_ite : Calls Tryd.prog 59 #[W2 W a, W2 W b, W2 W c] w fun e w' => Raw W 21 a b c e ∧ Below w.heap.size w w' := by
  unfold W2
  by_cases h0 : a = 0
  · have HR := Lib.hid (show Raw W 21 a b c (.returned (.int .u64 (c : Int))) from Raw.word h hc (by show c = if a = 0 then c else b; rw [if_pos h0]))
    clear h1 h ha hb hc
    go_enter Tryd.func59, Tryd.ntmps59
    go_wp2
    go_ret
    exact ⟨HR.out, (((Below.refl _ _).alloc (Nat.le_refl _) _).alloc (by simp) _).alloc (by simp; omega) _⟩
  · have HR := Lib.hid (show Raw W 21 a b c (.returned (.int .u64 (b : Int))) from Raw.word h hb (by show b = if a = 0 then c else b; rw [if_neg h0]))
    clear h1 h ha hb hc
    go_enter Tryd.func59, Tryd.ntmps59
    go_wp2
    go_ret
    exact ⟨HR.out, (((Below.refl _ _).alloc (Nat.le_refl _) _).alloc (by simp) _).alloc (by simp; omega) _⟩
end
end Go.Proofs.YtldcekejbnhloaaDoor.Words
