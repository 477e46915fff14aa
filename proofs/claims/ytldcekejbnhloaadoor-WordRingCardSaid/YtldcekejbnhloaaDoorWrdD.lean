/-
  Layer word: a word out of a number, the width's check, and the table of the operators.
-/
import Derived.Test.YtldcekejbnhloaaDoorWrdC
import Derived.Great.BuildSlice
import Derived.Laws.EntriesVeiled
set_option linter.unusedSectionVars false
set_option linter.unusedVariables false
namespace Go.Proofs.YtldcekejbnhloaaDoor.Words
open Go.RowKit Go.Lib
open Go.RowKit (Below)

theorem trimmed_is {W : Nat} (h1 : 1 ≤ W) (h : W ≤ 64) (v : Nat) (hv : v < 18446744073709551616) (w : World) :
    Calls Tryd.prog 29 #[.int .i64 (W : Int), .int .u64 (v : Int)] w fun e w' => e = .returned (W2 W (v % 2 ^ W)) ∧ Below w.heap.size w w' := by
  have hf := low_and h1 h v hv
  rw [show min ((64 : Int) - (W : Int)).toNat 64 = 64 - W by omega] at hf
  have hw : IntKind.i64.wrap ((64 : Int) - (W : Int)) = 64 - (W : Int) := by simp [IntKind.wrap, IntKind.bits, IntKind.signed]; omega
  have hs2 : (0 : Int) ≤ (64 : Int) - (W : Int) := by omega
  obtain ⟨r, hr⟩ : ∃ r, v % 2 ^ W = r := ⟨_, rfl⟩
  rw [hr] at hf ⊢
  unfold W2
  clear h1 h hv hr
  go_enter Tryd.func29, Tryd.ntmps29
  go_wp2
  refine bodyPost_ret (v := .agg #[.int .i64 W, .int .u64 r]) (by simp [results, Tryd.results29, go_sem]) rfl ⟨rfl, (Below.refl _ _).alloc (Nat.le_refl _) _⟩
/-- What Check says of a width. -/
def chk (n : Int) : Int := if n < 1 ∨ 64 < n then 3 else 0
theorem check_is (n : Int) (w : World) : Calls Tryd.prog 20 #[.int .i64 n] w fun e w' => e = .returned (.int .i64 (chk n)) ∧ w = w' := by
  unfold chk
  by_cases h1 : n < 1
  · have hd : decide (n < 1) = true := by simpa using h1
    go_enter Tryd.func20, Tryd.ntmps20
    go_wp2
    go_ret
    exact ⟨rfl, rfl⟩
  · have hd : decide (n < 1) = false := by simpa using h1
    by_cases h2 : 64 < n
    · go_enter Tryd.func20, Tryd.ntmps20
      go_wp2
      go_ret
      exact ⟨rfl, rfl⟩
    · go_enter Tryd.func20, Tryd.ntmps20
      go_wp2
      go_ret
      exact ⟨rfl, rfl⟩
theorem rcheck_is (n : Int) (w : World) : Calls Tryd.prog 21 #[.int .i64 n] w fun e w' => e = .returned (.int .i64 (chk n)) ∧ w = w' := by
  unfold chk
  by_cases h1 : n < 1
  · have hd : decide (n < 1) = true := by simpa using h1
    go_enter Tryd.func21, Tryd.ntmps21
    go_wp2
    go_ret
    exact ⟨rfl, rfl⟩
  · have hd : decide (n < 1) = false := by simpa using h1
    by_cases h2 : 64 < n
    · go_enter Tryd.func21, Tryd.ntmps21
      go_wp2
      go_ret
      exact ⟨rfl, rfl⟩
    · go_enter Tryd.func21, Tryd.ntmps21
      go_wp2
      go_ret
      exact ⟨rfl, rfl⟩

/-! The table. -/
def mTab : List Nat := [40, 41, 42, 43, 44, 45, 46, 47, 48, 49, 50, 51, 52, 53, 54, 55, 56, 57, 58, 59]
def mOf (o : Nat) : Value := .func (.func (mTab.getD (o - 2) 0)) #[] #[]
def c1Of (o : Nat) : Value := if 2 ≤ o ∧ o < 4 then mOf o else .nilFunc
def c2Of (o : Nat) : Value := if 4 ≤ o ∧ o < 21 then mOf o else .nilFunc
def c3Of (o : Nat) : Value := if 21 ≤ o then mOf o else .nilFunc
def calcs : Array Value := ((List.range 22).flatMap fun o => [c1Of o, c2Of o, c3Of o]).toArray
theorem calc_at (w : World) : ∀ o : Nat, o < 22 → (Instr.index 72 (.agg calcs) (.int .u8 (o : Int))).run Tryd.prog w = .ok (.agg #[c1Of o, c2Of o, c3Of o]) w := by
  intro o ho
  rcases o with _ | _ | _ | _ | _ | _ | _ | _ | _ | _ | _ | _ | _ | _ | _ | _ | _ | _ | _ | _ | _ | _ | o
  all_goals first | exact rfl | omega
/-- What the table holds for the operator o: a function in the place of its number of arguments. -/
theorem calc_cases (o : Nat) (h2 : 2 ≤ o) (ho : o < 22) : (o < 4 ∧ #[c1Of o, c2Of o, c3Of o] = #[mOf o, .nilFunc, .nilFunc]) ∨ (4 ≤ o ∧ o < 21 ∧ #[c1Of o, c2Of o, c3Of o] = #[.nilFunc, mOf o, .nilFunc]) ∨ (o = 21 ∧ #[c1Of o, c2Of o, c3Of o] = #[.nilFunc, .nilFunc, mOf o]) := by
  unfold c1Of c2Of c3Of
  by_cases h4 : o < 4
  · rw [if_pos (by omega), if_neg (by omega), if_neg (by omega)]; exact .inl ⟨h4, rfl⟩
  by_cases h21 : o < 21
  · rw [if_neg (by omega), if_pos (by omega), if_neg (by omega)]; exact .inr (.inl ⟨by omega, h21, rfl⟩)
  · rw [if_neg (by omega), if_neg (by omega), if_pos (by omega)]; exact .inr (.inr ⟨by omega, rfl⟩)
set_option maxHeartbeats 4000000 in
theorem calc_is (o : Nat) (h2 : 2 ≤ o) (ho : o < 22) (w : World) :
    Calls Tryd.prog 37 #[.int .u8 (o : Int)] w fun e w' => e = .returned (.agg #[c1Of o, c2Of o, c3Of o]) ∧ Below w.heap.size w w' := by
  have HC := calc_at (w.alloc (Obj.cells #[Value.nilFunc, Value.nilFunc, Value.nilFunc] 68)) o ho
  rcases calc_cases o h2 ho with ⟨-, h⟩ | ⟨-, -, h⟩ | ⟨-, h⟩
  all_goals
    rw [h] at HC ⊢
    clear h
    unfold mOf at HC ⊢
    obtain ⟨k, hk⟩ : ∃ k, mTab.getD (o - 2) 0 = k := ⟨_, rfl⟩
    rw [hk] at HC ⊢
    clear hk
    go_enter Tryd.func37, Tryd.ntmps37
    go_wp2_with (refine wpList_buildTo (by rfl) 72 _ (by rfl) _ (by rfl) calcs (by kernel_rfl) ?_)
    go_wp2
  · refine bodyPost_ret (v := .agg #[.func (.func _) #[] #[], .nilFunc, .nilFunc]) (by simp [results, Tryd.results37, go_sem]) rfl ⟨rfl, (Below.refl _ _).alloc (Nat.le_refl _) _⟩
  · refine bodyPost_ret (v := .agg #[.nilFunc, .func (.func _) #[] #[], .nilFunc]) (by simp [results, Tryd.results37, go_sem]) rfl ⟨rfl, (Below.refl _ _).alloc (Nat.le_refl _) _⟩
  · refine bodyPost_ret (v := .agg #[.nilFunc, .nilFunc, .func (.func _) #[] #[]]) (by simp [results, Tryd.results37, go_sem]) rfl ⟨rfl, (Below.refl _ _).alloc (Nat.le_refl _) _⟩
end Go.Proofs.YtldcekejbnhloaaDoor.Words
