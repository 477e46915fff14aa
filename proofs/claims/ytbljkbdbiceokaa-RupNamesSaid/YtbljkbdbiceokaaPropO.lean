/-
  The statements' own small functions: three, units, fails, known; has, assumed.
-/
import Derived.Test.YtbljkbdbiceokaaPropP
namespace Go.Proofs.Ytbljkbdbiceokaa
open Go.RowKit Go.Lib
open Go.RowKit (Below)

theorem threeL_rng : ∀ z ∈ threeL, ∀ x ∈ z, Rng x := by
  intro z hz x hx
  simp [threeL] at hz
  rcases hz with rfl | rfl | rfl <;> simp at hx <;> rcases hx with rfl | rfl <;> constructor <;> decide
end Go.Proofs.Ytbljkbdbiceokaa
