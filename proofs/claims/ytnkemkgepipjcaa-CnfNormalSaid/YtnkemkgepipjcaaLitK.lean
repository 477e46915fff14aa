/-
  'known': the closed example that each statement of layer 1 ends with.
-/
import Derived.Test.YtnkemkgepipjcaaLitH
import Derived.Test.YtnkemkgepipjcaaLitJ
namespace Go.Proofs.Ytnkemkgepipjcaa
open Go.RowKit Go.Lib
open Go.RowKit (Below)

theorem norm_is {zs r : List Int} {is : Bool} {n m : Nat} (hn : zs.length = n) (hm : r.length = m) (hr : normB zs = (r, is)) (c : Option Addr) (cc : Nat) (w : World) (hb : n * 8 ≤ 140737488351232) (h : IntsR w c zs) :
    Calls Try.prog 25 #[.slice c n cc] w fun e w' => ∃ a c2, e = .returned (.tuple #[.slice a m c2, .bool is]) ∧ IntsR w' a r ∧ Below w.heap.size w w' := by
  have := norm_any c cc zs w (by omega) h
  rw [hr, hn] at this
  subst hm
  exact this
/-! What 'sorted' does, said without it. -/
theorem leB_trans (a b c : Int) (h1 : (!lessB b a) = true) (h2 : (!lessB c b) = true) : (!lessB c a) = true := by
  have a1 : ¬ lessB b a = true := by simpa using h1
  have a2 : ¬ lessB c b = true := by simpa using h2
  cases h : lessB c a
  · rfl
  · rw [lessB_iff] at h a1 a2; omega
theorem leB_total (a b : Int) : ((!lessB b a) || (!lessB a b)) = true := by
  cases h1 : lessB b a
  · rfl
  · cases h2 : lessB a b
    · rfl
    · exact absurd h2 (lessB_asymm _ _ h1)
theorem leB_anti (a b : Int) (h1 : (!lessB b a) = true) (h2 : (!lessB a b) = true) : a = b :=
  lessB_total a b (by simpa using h2) (by simpa using h1)
theorem sortL_perm (zs : List Int) : (sortL zs).Perm zs := List.mergeSort_perm _ _
theorem sortL_pairwise (zs : List Int) : (sortL zs).Pairwise (fun x y => (!lessB y x) = true) := List.pairwise_mergeSort (le := fun x y => !lessB y x) leB_trans leB_total zs
theorem sortL_unique {zs ys : List Int} (hp : ys.Perm zs) (hs : ys.Pairwise (fun x y => (!lessB y x) = true)) : sortL zs = ys :=
  List.Perm.eq_of_pairwise (le := fun x y => (!lessB y x) = true) (fun a b _ _ h1 h2 => leB_anti a b h1 h2) (sortL_pairwise zs) hs ((sortL_perm zs).trans hp.symm)
theorem normB_of {zs ys r : List Int} {is : Bool} (hp : ys.Perm zs) (hs : ys.Pairwise (fun x y => (!lessB y x) = true)) (h : (match normFold ys with | none => ([], true) | some r => (r, false)) = (r, is)) : normB zs = (r, is) := by
  unfold normB; rw [sortL_unique hp hs]; exact h

theorem norm_example : normB [3, -1, 3, 2] = ([-1, 2, 3], false) := normB_of (ys := [-1, 2, 3, 3]) (by decide +kernel) (by decide +kernel) (by decide +kernel)
theorem holds_example : ([-1] : List Int).any (holdsL [false, true]) = true := by decide +kernel
theorem check_example : checkI 3 [1, -3] = 0 := by decide +kernel

end Go.Proofs.Ytnkemkgepipjcaa
