/-
  Contracts of Holds (program and reference) and of 'has'.
-/
import Derived.Test.YtkannkalbhmlcaaDoorLitB
import Derived.Deep.QuietTactic
import Derived.BigQuiet
namespace Go.Proofs.YtkannkalbhmlcaaDoor
open Go.RowKit Go.Lib

/-- Whether a literal holds in a model. -/
def holdsL (m : List Bool) (x : Int) : Bool := decide (0 < au x) && decide (au x ≤ m.length) && (m.getD ((au x).toNat - 1) false == decide (0 < x))
theorem holdsL_zero (m : List Bool) (x : Int) (h : au x = 0) : holdsL m x = false := by unfold holdsL; rw [h]; rfl
theorem holdsL_far (m : List Bool) (x : Int) (h : (m.length : Int) < au x) : holdsL m x = false := by
  unfold holdsL; rw [decide_eq_false (show ¬ au x ≤ m.length by omega)]; simp
theorem holdsL_at (m : List Bool) (x : Int) (n : Nat) (y : Bool) (h : au x = (n : Int) + 1) (hy : m[n]? = some y) : holdsL m x = (y == decide (0 < x)) := by
  obtain ⟨hn, rfl⟩ := List.getElem?_eq_some_iff.1 hy
  unfold holdsL
  rw [h, decide_eq_true (show (0 : Int) < (n : Int) + 1 by omega), decide_eq_true (show (n : Int) + 1 ≤ m.length by omega), show ((n : Int) + 1).toNat - 1 = n by omega]
  simp [List.getD, List.getElem?_eq_getElem hn]
theorem variable_is (x v : Int) (h : Hid (au x = v)) (w : World) : Calls Tryd.prog 49 #[.int .i64 x] w fun e w' => e = .returned (.int .u64 v) ∧ w = w' := by
  have := variable_any x w; rw [h.out] at this; exact this
theorem size_is (x v : Int) (h : Hid (au x = v)) (w : World) : Calls Tryd.prog 51 #[.int .i64 x] w fun e w' => e = .returned (.int .u64 v) ∧ w = w' := by
  have := size_any x w; rw [h.out] at this; exact this
theorem any_step {α : Type} (p : α → Bool) (zs : List α) (k : Nat) (x : α) (ha : (zs.take k).any p = false) (hx : zs[k]? = some x) (h : p x = false) : (zs.take (k + 1)).any p = false := by
  rw [take_any_succ _ _ _ _ hx, ha, h]; rfl
theorem any_done {α : Type} (p : α → Bool) (zs : List α) (k : Nat) (ha : (zs.take k).any p = false) (h : ¬ k < zs.length) : zs.any p = false := by
  rwa [List.take_of_length_le (by omega)] at ha

end Go.Proofs.YtkannkalbhmlcaaDoor
