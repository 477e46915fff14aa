/-
  CnfFirsts' walk.
-/
import Derived.Test.YtnkemkgepipjcaaCnfD
namespace Go.Proofs.Ytnkemkgepipjcaa
open Go.RowKit Go.Lib
open Go.RowKit (Below)

set_option maxHeartbeats 2000000 in
theorem cnfFirsts_walk (w : World) (n : Int) (_ : (Lit.int .i64 n).wf = true) (a : Option Addr) (c : Nat) (zss : List (List Int)) (hR : RowsR .i64 w a zss) (hA : AllLen zss) (hm : zss.length ≤ maxLen) (_ : ∀ z ∈ zss, ∀ n ∈ z, (Lit.int .i64 n).wf = true)
    (b : Option Addr) (d : Nat) (m : List Bool) (hM : BoolsR w b m) (hmm : m.length ≤ maxLen) :
    Calls Try.prog 4 #[.agg #[.int .i64 n, .slice a zss.length c], .slice b m.length d] w fun e w' => e = .returned (.bool true) ∧ Below w.heap.size w w' := by
  have HA := Lib.hid hA
  have HR := Lib.hid (hR.alloc (.cells #[.int .i64 n, .slice a zss.length c] 24))
  have HB := Lib.hid (boxed w (.cells #[.int .i64 n, .slice a zss.length c] 24))
  have HMB := Lib.hid (hM.below (boxed w (.cells #[.int .i64 n, .slice a zss.length c] 24)))
  have h0 := Lib.hid (box0 w (.int .i64 n) (.slice a zss.length c) 24)
  have h1 := Lib.hid (box1 w (.int .i64 n) (.slice a zss.length c) 24)
  obtain ⟨x, hx⟩ : ∃ x, firstN n m zss = x := ⟨_, rfl⟩
  obtain ⟨y, hy⟩ : ∃ y, firstE n m zss = y := ⟨_, rfl⟩
  have HX := Lib.hid hx
  have HY := Lib.hid hy
  have HM := Lib.hid hm
  have HMM := Lib.hid hmm
  unfold maxLen at hmm
  clear hR hA hm hM hx hy
  cases hs : smallB zss
  · have HS := Lib.hid hs
    clear hs
    go_enter Try.func4, Try.ntmps4
    go_wp2_with fail
    refine (small_is rfl HS.out _ _ _ _ HM.out HA.out HR.out).mono ?_
    rintro e w1 ⟨rfl, hB1⟩
    have HB1 := Lib.hid (HB.out.trans (hB1.mono (by simp)))
    clear hB1
    go_wp2_with fail
    refine (known_any _).mono ?_
    rintro e w2 ⟨rfl, hB2⟩
    have HB2 := Lib.hid (HB1.out.trans (hB2.mono HB1.out.size))
    clear hB2
    go_wp2
    go_ret
    exact ⟨rfl, HB2.out⟩
  · have HS := Lib.hid hs
    clear hs
    by_cases hl : 200 < m.length
    · go_enter Try.func4, Try.ntmps4
      go_wp2_with fail
      refine (small_is rfl HS.out _ _ _ _ HM.out HA.out HR.out).mono ?_
      rintro e w1 ⟨rfl, hB1⟩
      have HB1 := Lib.hid (HB.out.trans (hB1.mono (by simp)))
      clear hB1
      go_wp2_with fail
      refine (known_any _).mono ?_
      rintro e w2 ⟨rfl, hB2⟩
      have HB2 := Lib.hid (HB1.out.trans (hB2.mono HB1.out.size))
      clear hB2
      go_wp2
      go_ret
      exact ⟨rfl, HB2.out⟩
    · have hl' : m.length ≤ 200 := by omega
      clear hl
      have ex : (x == x) = true := by simp
      have ey : (y == y) = true := by simp
      go_enter Try.func4, Try.ntmps4
      go_wp2_with fail
      refine (small_is rfl HS.out _ _ _ _ HM.out HA.out HR.out).mono ?_
      rintro e w1 ⟨rfl, hB1⟩
      have c0 := (hB1.cell (p := ⟨w.heap.size, 0, none⟩) (by simp)).trans h0.out
      have c1 := (hB1.cell (p := ⟨w.heap.size, 1, none⟩) (by simp)).trans h1.out
      have HC0 := Lib.hid c0
      have HC1 := Lib.hid c1
      have HR1 := Lib.hid (HR.out.below hB1)
      have HM1 := Lib.hid (HMB.out.below hB1)
      have hz : w.heap.size < w1.heap.size := by have := hB1.size; simp at this; omega
      have HB1 := Lib.hid (HB.out.trans (hB1.mono (by simp)))
      clear hB1
      go_wp2_with fail
      refine (first_is rfl rfl HX.out HY.out _ _ _ _ _ HM.out HA.out HMM.out HR1.out HM1.out).mono ?_
      rintro e w2 ⟨rfl, hB2⟩
      clear c0 c1
      have c0 := (hB2.cell (p := ⟨w.heap.size, 0, none⟩) hz).trans HC0.out
      have c1 := (hB2.cell (p := ⟨w.heap.size, 1, none⟩) hz).trans HC1.out
      have HR2 := Lib.hid (HR1.out.below hB2)
      have HM2 := Lib.hid (HM1.out.below hB2)
      have HB2 := Lib.hid (HB1.out.trans (hB2.mono HB1.out.size))
      clear hB2
      go_wp2_with fail
      refine (refFirst_is rfl rfl HX.out HY.out _ _ _ _ _ HM.out HA.out HMM.out HR2.out HM2.out).mono ?_
      rintro e w3 ⟨rfl, hB3⟩
      have HB3 := Lib.hid (HB2.out.trans (hB3.mono HB2.out.size))
      clear hB3 c0 c1
      go_wp2_with fail
      refine (known_any _).mono ?_
      rintro e w4 ⟨rfl, hB4⟩
      have HB4 := Lib.hid (HB3.out.trans (hB4.mono HB3.out.size))
      clear hB4
      go_wp2
      go_ret
      exact ⟨rfl, HB4.out⟩
end Go.Proofs.Ytnkemkgepipjcaa
