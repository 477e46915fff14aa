/-
  'odd': a separator of words.
-/
import Derived.Test.YtkannkalbhmlcaaDoorDimU
import Derived.IntWalk
namespace Go.Proofs.YtkannkalbhmlcaaDoor
open Go.RowKit Go.Lib
open Go.RowKit (Below)

set_option maxRecDepth 100000 in
set_option maxHeartbeats 4000000 in
theorem odd_any (k : Nat) (hk : k ≤ 255) (w : World) : Calls Tryd.prog 20 #[.int .u8 k] w fun e w' => e = .returned (.string (str (oddT k))) ∧ Below w.heap.size w w' := by
  have e1 : IntKind.i64.wrap (k : Int) = (k : Int) := IntWalk.i64_in _ (by omega)
  obtain ⟨r, hr⟩ : ∃ r : Nat, k % 7 = r := ⟨_, rfl⟩
  have hr7 : r < 7 := by omega
  have e2 : (k : Int).tmod 7 = (r : Int) := by rw [Int.tmod_eq_emod_of_nonneg (by omega)]; omega
  have HS : Hid (str (oddT k) = str (oddT r)) := by unfold Hid oddT; rw [hr]; congr 2; rw [Nat.mod_eq_of_lt hr7]
  clear hr
  rw [HS.out]
  clear HS
  match r, hr7 with
  | 0, _ =>
    go_enter Tryd.func20, Tryd.ntmps20
    go_wp2
    go_ret
    exact ⟨rfl, boxed w _⟩
  | 1, _ =>
    go_enter Tryd.func20, Tryd.ntmps20
    go_wp2
    go_ret
    exact ⟨rfl, boxed w _⟩
  | 2, _ =>
    go_enter Tryd.func20, Tryd.ntmps20
    go_wp2
    go_ret
    exact ⟨rfl, boxed w _⟩
  | 3, _ =>
    go_enter Tryd.func20, Tryd.ntmps20
    go_wp2
    go_ret
    exact ⟨rfl, boxed w _⟩
  | 4, _ =>
    go_enter Tryd.func20, Tryd.ntmps20
    go_wp2
    go_ret
    exact ⟨rfl, boxed w _⟩
  | 5, _ =>
    go_enter Tryd.func20, Tryd.ntmps20
    go_wp2
    go_ret
    exact ⟨rfl, boxed w _⟩
  | 6, _ =>
    go_enter Tryd.func20, Tryd.ntmps20
    go_wp2
    go_ret
    exact ⟨rfl, boxed w _⟩
  | n + 7, h => omega
end Go.Proofs.YtkannkalbhmlcaaDoor
