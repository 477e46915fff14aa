/-
  Equal and EqualFormula.
-/
import Derived.Test.YtkannkalbhmlcaaDoorCnfQ
import Derived.Test.YtkannkalbhmlcaaDoorCnfE
namespace Go.Proofs.YtkannkalbhmlcaaDoor
open Go.RowKit Go.Lib
open Go.RowKit (Below)

theorem equalLists_is {xs ys : List (List Int)} {k l : Nat} {r : Bool} (hk : xs.length = k) (hl : ys.length = l) (hr : eqL xs ys = r) (a c : Option Addr) (ca cc : Nat) (w : World) (hb : k ≤ maxLen) (hA : AllLen xs) (hX : RowsR .i64 w a xs) (hY : RowsR .i64 w c ys) :
    Calls Tryd.prog 35 #[.slice a k ca, .slice c l cc] w fun e w' => e = .returned (.bool r) ∧ QuietTo w w' := by
  subst hk hl hr; exact equalLists_any a c ca cc xs ys w hb hA hX hY

/-- Whether two formulas are equal. -/
def eqFm (n : Int) (xs : List (List Int)) (k : Int) (ys : List (List Int)) : Bool := (n == k) && eqL xs ys

set_option maxHeartbeats 2000000 in
theorem equalFormula_any (n k : Int) (a c : Option Addr) (ca cc : Nat) (xs ys : List (List Int)) (w : World) (hmx : xs.length ≤ maxLen) (hA : AllLen xs) (hX : RowsR .i64 w a xs) (hY : RowsR .i64 w c ys) :
    Calls Tryd.prog 17 #[.agg #[.int .i64 n, .slice a xs.length ca], .agg #[.int .i64 k, .slice c ys.length cc]] w fun e w' => e = .returned (.bool (eqFm n xs k ys)) ∧ Below w.heap.size w w' := by
  have HB := Lib.hid ((boxed w (.cells #[.int .i64 n, .slice a xs.length ca] 24)).alloc (by simp) (.cells #[.int .i64 k, .slice c ys.length cc] 24))
  have HX := Lib.hid ((hX.alloc (.cells #[.int .i64 n, .slice a xs.length ca] 24)).alloc (.cells #[.int .i64 k, .slice c ys.length cc] 24))
  have HY := Lib.hid ((hY.alloc (.cells #[.int .i64 n, .slice a xs.length ca] 24)).alloc (.cells #[.int .i64 k, .slice c ys.length cc] 24))
  have HA := Lib.hid hA
  have HM := Lib.hid hmx
  clear hX hY hA hmx
  cases he : (n == k)
  · have HE : Hid (eqFm n xs k ys = false) := by unfold Hid eqFm; rw [he]; rfl
    go_enter Tryd.func17, Tryd.ntmps17
    go_wp2
    go_ret
    exact ⟨ret_bool HE.out.symm, HB.out⟩
  · obtain ⟨r, hr⟩ : ∃ r, eqL xs ys = r := ⟨_, rfl⟩
    have HE : Hid (eqFm n xs k ys = r) := by unfold Hid eqFm; rw [he, hr]; rfl
    have HR := Lib.hid hr
    clear hr
    go_enter Tryd.func17, Tryd.ntmps17
    go_wp2_with fail
    refine (equalLists_is rfl rfl HR.out a c ca cc _ HM.out HA.out HX.out HY.out).mono ?_
    rintro e w1 ⟨rfl, hq⟩
    have HB1 := Lib.hid (HB.out.trans (quietBelow hq _))
    clear hq
    go_wp2
    go_ret
    exact ⟨ret_bool HE.out.symm, HB1.out⟩
theorem equalFormula_is {n k : Int} {xs ys : List (List Int)} {i j : Nat} {r : Bool} (hk : xs.length = i) (hl : ys.length = j) (hr : eqFm n xs k ys = r) (a c : Option Addr) (ca cc : Nat) (w : World) (hb : i ≤ maxLen) (hA : AllLen xs) (hX : RowsR .i64 w a xs) (hY : RowsR .i64 w c ys) :
    Calls Tryd.prog 17 #[.agg #[.int .i64 n, .slice a i ca], .agg #[.int .i64 k, .slice c j cc]] w fun e w' => e = .returned (.bool r) ∧ Below w.heap.size w w' := by
  subst hk hl hr; exact equalFormula_any n k a c ca cc xs ys w hb hA hX hY
theorem eqFm_refl (n : Int) (xs : List (List Int)) : eqFm n xs n xs = true := by unfold eqFm eqL; simp
theorem eqFm_symm (n k : Int) (xs ys : List (List Int)) : eqFm n xs k ys = eqFm k ys n xs := by
  unfold eqFm eqL
  rw [Bool.eq_iff_iff]
  simp only [Bool.and_eq_true, beq_iff_eq, decide_eq_true_eq]
  constructor <;> rintro ⟨rfl, rfl⟩ <;> exact ⟨rfl, rfl⟩
end Go.Proofs.YtkannkalbhmlcaaDoor
