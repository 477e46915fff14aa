/-
  LitOrder's walk.
-/
import Derived.Test.YtiddnahipdlgkaaLitK
namespace Go.Proofs.Ytiddnahipdlgkaa
open Go.RowKit Go.Lib
open Go.RowKit (Below)

set_option maxHeartbeats 1000000 in
theorem litOrder_walk (w : World) (a : Int) (_ : (Lit.int .i64 a).wf = true) (b : Int) (_ : (Lit.int .i64 b).wf = true) (c : Int) (_ : (Lit.int .i64 c).wf = true) :
    Calls Try.prog 10 #[.int .i64 a, .int .i64 b, .int .i64 c] w fun e w' => e = .returned (.bool true) ∧ Below w.heap.size w w' := by
  have h1 := lessB_irrefl a
  have hK := known_any w
  by_cases hab : a = b
  · subst hab
    go_enter Try.func10, Try.ntmps10
    go_wp2_with (first | (go_at_call 19; refine (less_any _ _ _).mono ?_; rintro e w' ⟨rfl, rfl⟩) | (go_at_call 12; refine hK.mono ?_; rintro e w' ⟨rfl, hB⟩))
    go_ret
    exact ⟨rfl, hB⟩
  have hne : (a == b) = false := by simp [hab]
  have hne2 : (a != b) = true := by simp [hab]
  cases e1 : lessB a b
  · have e2 : lessB b a = true := by
      cases e2 : lessB b a
      · exact absurd (lessB_total a b (by simp [e1]) (by simp [e2])) hab
      · rfl
    clear hab
    go_enter Try.func10, Try.ntmps10
    go_wp2_with (first | (go_at_call 19; refine (less_any _ _ _).mono ?_; rintro e w' ⟨rfl, rfl⟩) | (go_at_call 12; refine hK.mono ?_; rintro e w' ⟨rfl, hB⟩))
    go_ret
    exact ⟨rfl, hB⟩
  · have e2 : lessB b a = false := by simpa using lessB_asymm a b e1
    clear hab
    cases e3 : lessB b c
    · go_enter Try.func10, Try.ntmps10
      go_wp2_with (first | (go_at_call 19; refine (less_any _ _ _).mono ?_; rintro e w' ⟨rfl, rfl⟩) | (go_at_call 12; refine hK.mono ?_; rintro e w' ⟨rfl, hB⟩))
      go_ret
      exact ⟨rfl, hB⟩
    · have e4 := lessB_trans a b c e1 e3
      go_enter Try.func10, Try.ntmps10
      go_wp2_with (first | (go_at_call 19; refine (less_any _ _ _).mono ?_; rintro e w' ⟨rfl, rfl⟩) | (go_at_call 12; refine hK.mono ?_; rintro e w' ⟨rfl, hB⟩))
      go_ret
      exact ⟨rfl, hB⟩
end Go.Proofs.Ytiddnahipdlgkaa
