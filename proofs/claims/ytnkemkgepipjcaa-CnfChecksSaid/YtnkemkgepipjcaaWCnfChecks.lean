/-
  CnfChecks' walk.
-/
import Derived.Test.YtnkemkgepipjcaaCnfD
import Derived.Deep.RegionHeld3
import Derived.Deep.DrawnRows
namespace Go.Proofs.Ytnkemkgepipjcaa
open Go.RowKit Go.Lib
open Go.RowKit (Below)
attribute [local go_sem ↓] Go.wp_at_zero Go.wp_at_succ

theorem small_is {zss : List (List Int)} {l : Nat} {r : Bool} (hl : zss.length = l) (hr : smallB zss = r) (n : Int) (a : Option Addr) (c : Nat) (w : World) (hm : l ≤ maxLen) (hA : AllLen zss) (h : RowsR .i64 w a zss) :
    Calls Try.prog 11 #[.agg #[.int .i64 n, .slice a l c]] w fun e w' => e = .returned (.bool r) ∧ Below w.heap.size w w' := by
  subst hl hr; exact small_any n a c zss w hm hA h

set_option maxHeartbeats 2000000 in
theorem cnfChecks_walk (w : World) (n : Int) (_ : (Lit.int .i64 n).wf = true) (a : Option Addr) (c : Nat) (zss : List (List Int)) (hR : RowsR .i64 w a zss) (hA : AllLen zss) (hm : zss.length ≤ maxLen) (_ : ∀ z ∈ zss, ∀ n ∈ z, (Lit.int .i64 n).wf = true) :
    Calls Try.prog 3 #[.agg #[.int .i64 n, .slice a zss.length c]] w fun e w' => e = .returned (.bool true) ∧ Below w.heap.size w w' := by
  have HA := Lib.hid hA
  have HR := Lib.hid (hR.alloc (.cells #[.int .i64 n, .slice a zss.length c] 24))
  have HB := Lib.hid (boxed w (.cells #[.int .i64 n, .slice a zss.length c] 24))
  have h0 := Lib.hid (box0 w (.int .i64 n) (.slice a zss.length c) 24)
  have h1 := Lib.hid (box1 w (.int .i64 n) (.slice a zss.length c) 24)
  obtain ⟨r, hr⟩ : ∃ r, checkF n zss = r := ⟨_, rfl⟩
  have HV := Lib.hid hr
  have HM := Lib.hid hm
  clear hR hA hr hm
  cases hs : smallB zss
  · have HS := Lib.hid hs
    clear hs
    go_enter Try.func3, Try.ntmps3
    go_wp2_with fail
    refine (small_is rfl HS.out _ _ _ _ HM.out HA.out HR.out).mono ?_
    rintro e w1 ⟨rfl, hB1⟩
    have HB1 := Lib.hid (HB.out.trans (hB1.mono (by simp)))
    clear hB1
    go_wp2_with fail
    refine (known_any _).mono ?_
    rintro e w2 ⟨rfl, hB2⟩
    have HB2 := Lib.hid (HB1.out.trans (hB2.mono HB1.out.size))
    clear hB2
    go_wp2
    go_ret
    exact ⟨rfl, HB2.out⟩
  · have HS := Lib.hid hs
    clear hs
    go_enter Try.func3, Try.ntmps3
    go_wp2_with fail
    refine (small_is rfl HS.out _ _ _ _ HM.out HA.out HR.out).mono ?_
    rintro e w1 ⟨rfl, hB1⟩
    have c0 := (hB1.cell (p := ⟨w.heap.size, 0, none⟩) (by simp)).trans h0.out
    have c1 := (hB1.cell (p := ⟨w.heap.size, 1, none⟩) (by simp)).trans h1.out
    have hz : w.heap.size < w1.heap.size := by have := hB1.size; simp at this; omega
    have HR1 := Lib.hid (HR.out.below hB1)
    have HB1 := Lib.hid (HB.out.trans (hB1.mono (by simp)))
    have HH : Hid (∀ w', Hid (Below w1.heap.size w1 w') → w'.cell? ⟨w.heap.size, 0, none⟩ = some (.int .i64 n) ∧ w'.cell? ⟨w.heap.size, 1, none⟩ = some (.slice a zss.length c) ∧ Hid (Below w1.heap.size w1 w')) := fun w' hb => ⟨(hb.out.cell (p := ⟨w.heap.size, 0, none⟩) hz).trans c0, (hb.out.cell (p := ⟨w.heap.size, 1, none⟩) hz).trans c1, hb⟩
    have HD : Hid (Below w1.heap.size w1 w1.drew) := (Below.refl _ _).drew
    have K13 : Hid (∀ W, Hid (Below w1.heap.size w1 W) → Calls Try.prog 13 #[.agg #[.int .i64 n, .slice a zss.length c]] W fun e w' => e = .returned (.int .i64 r) ∧ Hid (Below w1.heap.size w1 w')) := fun W hW =>
      (checkF_is rfl HV.out a c W HM.out HA.out (HR1.out.below hW.out)).mono fun e w' ⟨he, hb⟩ => ⟨he, hW.out.trans (hb.mono hW.out.size)⟩
    have K14 : Hid (∀ W, Hid (Below w1.heap.size w1 W) → Calls Try.prog 14 #[.agg #[.int .i64 n, .slice a zss.length c]] W fun e w' => e = .returned (.int .i64 r) ∧ Hid (Below w1.heap.size w1 w')) := fun W hW =>
      (refCheckF_is rfl HV.out a c W HM.out HA.out (HR1.out.below hW.out)).mono fun e w' ⟨he, hb⟩ => ⟨he, hW.out.trans (hb.mono hW.out.size)⟩
    have K12 : Hid (∀ W, Hid (Below w1.heap.size w1 W) → Calls Try.prog 12 #[] W fun e w' => e = .returned (.bool true) ∧ Hid (Below w1.heap.size w1 w')) := fun W hW =>
      (known_any W).mono fun e w' ⟨he, hb⟩ => ⟨he, hW.out.trans (hb.mono hW.out.size)⟩
    have er : (r == r) = true := by simp
    clear hB1 c0 c1
    go_wp2
    go_region_held3 (fun w' => w'.cell? ⟨w.heap.size, 0, none⟩ = some (.int .i64 n) ∧ w'.cell? ⟨w.heap.size, 1, none⟩ = some (.slice a zss.length c) ∧ Hid (Below w1.heap.size w1 w')) (first | exact HH.out _ HD | exact HH.out _ (by assumption))
      (first | (go_at_call 13; refine (K13.out _ (by assumption)).mono ?_; rintro e w' ⟨rfl, hb⟩) | (go_at_call 14; refine (K14.out _ (by assumption)).mono ?_; rintro e w' ⟨rfl, hb⟩) | (go_at_call 12; refine (K12.out _ (by assumption)).mono ?_; rintro e w' ⟨rfl, hb⟩))
    all_goals
      go_wp2
      go_ret
      exact ⟨rfl, HB1.out.trans (Below.mono (Hid.out (p := Below w1.heap.size w1 _) (by assumption)) HB1.out.size)⟩
end Go.Proofs.Ytnkemkgepipjcaa
