/-
  Plain contracts of the small functions of layer 1: the absolute value (as an unsigned number) and the order of literals, for the program and for the reference.
-/
import Derived.Test.YtbljkbdbiceokaaProg
import Derived.WalkKit
import Derived.Lib.Hide
namespace Go.Proofs.Ytbljkbdbiceokaa
open Go.RowKit Go.Lib

/-- The absolute value as the program computes it, for whatever whole number. -/
def au (x : Int) : Int := if x < 0 then IntKind.u64.wrap (-(IntKind.u64.wrap x)) else IntKind.u64.wrap x
/-- The order of literals. -/
def lessB (x y : Int) : Bool := decide (au x < au y) || (au x == au y && decide (y < x))

theorem au_neg (x : Int) (h : x < 0) : au x = IntKind.u64.wrap (-(IntKind.u64.wrap x)) := by unfold au; rw [if_pos h]
theorem au_pos (x : Int) (h : ¬ x < 0) : au x = IntKind.u64.wrap x := by unfold au; rw [if_neg h]

theorem variable_any (x : Int) (w : World) : Calls Try.prog 43 #[.int .i64 x] w fun e w' => e = .returned (.int .u64 (au x)) ∧ w = w' := by
  by_cases h : x < 0
  · rw [au_neg x h]
    go_enter Try.func43, Try.ntmps43
    go_wp2
    go_ret
    exact ⟨rfl, rfl⟩
  · rw [au_pos x h]
    go_enter Try.func43, Try.ntmps43
    go_wp2
    go_ret
    exact ⟨rfl, rfl⟩

theorem size_any (x : Int) (w : World) : Calls Try.prog 52 #[.int .i64 x] w fun e w' => e = .returned (.int .u64 (au x)) ∧ w = w' := by
  by_cases h : x < 0
  · rw [au_neg x h]
    go_enter Try.func52, Try.ntmps52
    go_wp2
    go_ret
    exact ⟨rfl, rfl⟩
  · rw [au_pos x h]
    go_enter Try.func52, Try.ntmps52
    go_wp2
    go_ret
    exact ⟨rfl, rfl⟩

theorem ret_bool {a b : Bool} (h : a = b) : Ending.returned (.bool a) = Ending.returned (.bool b) := by rw [h]
theorem ret_int {k : IntKind} {a b : Int} (h : a = b) : Ending.returned (.int k a) = .returned (.int k b) := by rw [h]

theorem wrap_u (x : Int) : IntKind.u64.wrap x = x % 18446744073709551616 := by
  simp [IntKind.wrap, IntKind.bits, IntKind.signed]
theorem au_range (x : Int) : 0 ≤ au x ∧ au x < 18446744073709551616 := by
  unfold au; split <;> rw [wrap_u] <;> omega
/-- Of a number that fits into 64 bits: its absolute value. -/
theorem au_abs (x : Int) (h1 : -9223372036854775808 ≤ x) (h2 : x < 9223372036854775808) : au x = if x < 0 then -x else x := by
  unfold au
  by_cases h : x < 0
  · rw [if_pos h, if_pos h, wrap_u, wrap_u]; omega
  · rw [if_neg h, if_neg h, wrap_u]; omega

/-- The order is strict, total, on all whole numbers. -/
theorem lessB_irrefl (x : Int) : lessB x x = false := by unfold lessB; simp
theorem lessB_iff (x y : Int) : lessB x y = true ↔ au x < au y ∨ (au x = au y ∧ y < x) := by
  unfold lessB; simp
theorem lessB_trans (x y z : Int) (h1 : lessB x y = true) (h2 : lessB y z = true) : lessB x z = true := by
  rw [lessB_iff] at *; omega
theorem lessB_total (x y : Int) (h1 : ¬ lessB x y = true) (h2 : ¬ lessB y x = true) : x = y := by
  rw [lessB_iff] at *; omega
theorem lessB_asymm (x y : Int) (h1 : lessB x y = true) : ¬ lessB y x = true := by
  rw [lessB_iff] at *; omega
end Go.Proofs.Ytbljkbdbiceokaa
