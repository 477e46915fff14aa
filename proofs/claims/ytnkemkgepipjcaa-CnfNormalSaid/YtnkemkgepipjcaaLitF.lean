/-
  The comparison that 'sorted' hands to slices.SortFunc.
-/
import Derived.Test.YtnkemkgepipjcaaLitE
namespace Go.Proofs.Ytnkemkgepipjcaa
open Go.RowKit Go.Lib

def cfL (x y : Int) : Int := if lessB x y = true then -1 else if lessB y x = true then 1 else 0

theorem closure_any (x y : Int) (g : Nat) (w : World) (hc : w.cell? ⟨g, 0, none⟩ = some (.func (.func 35) #[] #[])) :
    Calls Try.prog 41 #[.int .i64 x, .int .i64 y, .pointer (some ⟨g, 0, none⟩)] w fun e w' => e = .returned (.int .i64 (cfL x y)) ∧ w = w' := by
  by_cases h1 : lessB x y = true
  · have hf : Hid (cfL x y = -1) := by unfold Hid cfL; rw [if_pos h1]
    go_enter Try.func41, Try.ntmps41
    go_wp2_with (go_at_call 35; refine (less_any _ _ _).mono ?_; rintro e w' ⟨rfl, rfl⟩)
    go_ret
    exact ⟨ret_int hf.out.symm, rfl⟩
  have e1 : lessB x y = false := by simpa using h1
  by_cases h2 : lessB y x = true
  · have hf : Hid (cfL x y = 1) := by unfold Hid cfL; rw [if_neg h1, if_pos h2]
    clear h1
    go_enter Try.func41, Try.ntmps41
    go_wp2_with (go_at_call 35; refine (less_any _ _ _).mono ?_; rintro e w' ⟨rfl, rfl⟩)
    go_ret
    exact ⟨ret_int hf.out.symm, rfl⟩
  · have hf : Hid (cfL x y = 0) := by unfold Hid cfL; rw [if_neg h1, if_neg h2]
    have e2 : lessB y x = false := by simpa using h2
    clear h1 h2
    go_enter Try.func41, Try.ntmps41
    go_wp2_with (go_at_call 35; refine (less_any _ _ _).mono ?_; rintro e w' ⟨rfl, rfl⟩)
    go_ret
    exact ⟨ret_int hf.out.symm, rfl⟩

end Go.Proofs.Ytnkemkgepipjcaa
