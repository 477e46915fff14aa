/-
  CnfCopies' walk.
-/
import Derived.Test.YtnkemkgepipjcaaCnfR
import Derived.Test.YtnkemkgepipjcaaCnfG
import Derived.Test.YtnkemkgepipjcaaCnfK
import Derived.IntWalk
import Derived.Deep.RegionHeld3
import Derived.Deep.DrawnRows
namespace Go.Proofs.Ytnkemkgepipjcaa
open Go.RowKit Go.Lib
open Go.RowKit (Below)
attribute [local go_sem ↓] Go.wp_at_zero Go.wp_at_succ

theorem block_put {w : World} {g : Nat} {z : List Int} (h : w.heap[g]? = some (.cells (z.map (Value.int .i64)).toArray 3 (0, 0))) (P : Nat) (v : Int) : (w.setCell ⟨g, P, none⟩ (.int .i64 v)).heap[g]? = some (.cells ((z.set P v).map (Value.int .i64)).toArray 3 (0, 0)) := by
  have e : ((z.set P v).map (Value.int .i64)).toArray = ((z.map (Value.int .i64)).toArray).setIfInBounds P (.int .i64 v) := by
    rw [List.setIfInBounds_toArray, List.map_set]
  rw [e]
  simp [World.setCell, Array.getElem?_modify, h]
theorem Copied.put {w : World} {B b : Nat} {G : Nat → Nat} {zss : List (List Int)} (h : Copied w B b G zss zss.length) {J P : Nat} {z : List Int} (v : Int) (hz : zss[J]? = some z) : RowsR .i64 (w.setCell ⟨G J, P, none⟩ (.int .i64 v)) (some ⟨b, 0, none⟩) (zss.set J (z.set P v)) := by
  have hJ := (List.getElem?_eq_some_iff.1 hz).1
  have hlt := (World.ownsRow.lt h.top b rfl).2
  have hp := h.past J hJ
  refine .inr ⟨b, 0, rfl, by simpa using hlt, fun j hj => ?_⟩
  have hj1 : j < zss.length := by simpa using hj
  have htop : (w.setCell ⟨G J, P, none⟩ (.int .i64 v)).cell? ⟨b, j, none⟩ = some (.slice (some ⟨G j, 0, none⟩) (zss.getD j []).length (zss.getD j []).length) := by
    rw [World.cell?_of_block (a := ⟨b, j, none⟩) (Below.heap_setCell w _ _ b (by simp; omega)), World.ownsRow.cellAt h.top j (by omega), topL_get G zss _ j hj1, if_pos hj1]
  rw [Nat.zero_add]
  by_cases e : j = J
  · subst e
    have h1 : zss.getD j [] = z := by rw [getD_some zss [] j hJ] at hz; exact Option.some.inj hz
    have h2 : (zss.set j (z.set P v)).getD j [] = z.set P v := by
      have := List.getElem?_set_self (l := zss) (a := z.set P v) hJ
      rw [getD_some _ [] j (by simpa using hJ)] at this
      exact Option.some.inj this
    rw [h1] at htop
    rw [h2]
    refine ⟨some ⟨G j, 0, none⟩, z.length, by rw [List.length_set]; exact htop, KI.of (block_ints (block_put (h.rows j z hJ hz) P v))⟩
  · have h2 : (zss.set J (z.set P v)).getD j [] = zss.getD j [] := by
      have := List.getElem?_set_ne (l := zss) (a := z.set P v) (fun h => e h.symm)
      rw [getD_some _ [] j hj, getD_some _ [] j hj1] at this
      exact Option.some.inj this
    rw [h2]
    have hne : G j ≠ G J := by
      rcases Nat.lt_or_gt_of_ne e with h3 | h3
      · have := h.inj j J h3 hJ; omega
      · have := h.inj J j h3 hj1; omega
    exact ⟨some ⟨G j, 0, none⟩, _, htop, KI.of (block_ints ((Below.heap_setCell w _ _ _ hne).trans (h.rows j _ hj1 (getD_some zss [] j hj1))))⟩
theorem eqL_put {zss : List (List Int)} {J P : Nat} {z : List Int} {x v : Int} (hz : zss[J]? = some z) (hx : z[P]? = some x) (hv : x ≠ v) : eqL zss (zss.set J (z.set P v)) = false := by
  refine decide_eq_false fun e => ?_
  have hJ := (List.getElem?_eq_some_iff.1 hz).1
  have hP := (List.getElem?_eq_some_iff.1 hx).1
  have h1 : zss[J]? = (zss.set J (z.set P v))[J]? := congrArg (fun l : List (List Int) => l[J]?) e
  rw [hz, List.getElem?_set_self hJ] at h1
  have h2 : z[P]? = (z.set P v)[P]? := congrArg (fun l : List Int => l[P]?) (Option.some.inj h1)
  rw [hx, List.getElem?_set_self hP] at h2
  exact hv (Option.some.inj h2)
theorem wrap_ne {x : Int} (h : (Lit.int .i64 x).wf = true) : x ≠ wrap64 (x + 1) := by
  unfold Lit.wf at h
  rw [Bool.and_eq_true, decide_eq_true_eq, decide_eq_true_eq] at h
  have h1 : -9223372036854775808 ≤ x := h.1
  have h2 : x ≤ 9223372036854775807 := h.2
  unfold wrap64
  omega
theorem u8_rangeC {z : Int} (h : (Lit.int .u8 z).wf = true) : 0 ≤ z ∧ z ≤ 255 := by
  unfold Lit.wf at h
  rw [Bool.and_eq_true, decide_eq_true_eq, decide_eq_true_eq] at h
  exact h

set_option maxRecDepth 100000 in
set_option maxHeartbeats 8000000 in
theorem cnfCopies_walk (w : World) (n1 : Int) (_ : (Lit.int .i64 n1).wf = true) (a1 : Option Addr) (c1 : Nat) (xss : List (List Int)) (hX : RowsR .i64 w a1 xss) (hXA : AllLen xss) (hXm : xss.length ≤ maxLen) (hXw : ∀ z ∈ xss, ∀ n ∈ z, (Lit.int .i64 n).wf = true)
    (n2 : Int) (_ : (Lit.int .i64 n2).wf = true) (a2 : Option Addr) (c2 : Nat) (yss : List (List Int)) (hY : RowsR .i64 w a2 yss) (hYA : AllLen yss) (hYm : yss.length ≤ maxLen) (_ : ∀ z ∈ yss, ∀ n ∈ z, (Lit.int .i64 n).wf = true)
    (i : Int) (hi : (Lit.int .u8 i).wf = true) (k : Int) (hk : (Lit.int .u8 k).wf = true) :
    Calls Try.prog 5 #[.agg #[.int .i64 n1, .slice a1 xss.length c1], .agg #[.int .i64 n2, .slice a2 yss.length c2], .int .u8 i, .int .u8 k] w fun e w' => e = .returned (.bool true) ∧ Below w.heap.size w w' := by
  obtain ⟨hi0, hi1⟩ := u8_rangeC hi
  obtain ⟨hk0, hk1⟩ := u8_rangeC hk
  have HXA := Lib.hid hXA
  have HYA := Lib.hid hYA
  have HXm := Lib.hid hXm
  have HYm := Lib.hid hYm
  have HXw := Lib.hid hXw
  have HX := Lib.hid ((hX.alloc (.cells #[.int .i64 n1, .slice a1 xss.length c1] 24)).alloc (.cells #[.int .i64 n2, .slice a2 yss.length c2] 24))
  have HY := Lib.hid ((hY.alloc (.cells #[.int .i64 n1, .slice a1 xss.length c1] 24)).alloc (.cells #[.int .i64 n2, .slice a2 yss.length c2] 24))
  have HB := Lib.hid ((boxed w (.cells #[.int .i64 n1, .slice a1 xss.length c1] 24)).alloc (by simp) (.cells #[.int .i64 n2, .slice a2 yss.length c2] 24))
  have HF := Lib.hid ((Two.new w (.int .i64 n1) (.slice a1 xss.length c1)).alloc (.cells #[.int .i64 n2, .slice a2 yss.length c2] 24))
  have HG : Hid (Two ((w.alloc (.cells #[.int .i64 n1, .slice a1 xss.length c1] 24)).alloc (.cells #[.int .i64 n2, .slice a2 yss.length c2] 24)) (w.heap.size + 1) (.int .i64 n2) (.slice a2 yss.length c2)) := by
    have := Two.new (w.alloc (.cells #[.int .i64 n1, .slice a1 xss.length c1] 24)) (.int .i64 n2) (.slice a2 yss.length c2); unfold Hid; simpa using this
  clear hX hXA hXm hY hYA hYm hi hk hXw
  cases hs : smallB xss
  · have HS := Lib.hid hs
    clear hs
    go_enter Try.func5, Try.ntmps5
    go_wp2_with fail
    refine (small_is rfl HS.out _ _ _ _ HXm.out HXA.out HX.out).mono ?_
    rintro e w1 ⟨rfl, hB1⟩
    have HB1 := Lib.hid (HB.out.trans (hB1.mono (by simp; omega)))
    clear hB1
    go_wp2_with fail
    refine (known_any _).mono ?_
    rintro e w2 ⟨rfl, hB2⟩
    have HB2 := Lib.hid (HB1.out.trans (hB2.mono HB1.out.size))
    clear hB2
    go_wp2
    go_ret
    exact ⟨rfl, HB2.out⟩
  have HS := Lib.hid hs
  have hx60 := (smallB_parts hs).1
  have HX40 := Lib.hid (smallB_parts hs).2
  clear hs
  cases ht : smallB yss
  · have HT := Lib.hid ht
    clear ht
    go_enter Try.func5, Try.ntmps5
    go_wp2_with fail
    refine (small_is rfl HS.out _ _ _ _ HXm.out HXA.out HX.out).mono ?_
    rintro e w1 ⟨rfl, hB1⟩
    have HB1 := Lib.hid (HB.out.trans (hB1.mono (by simp; omega)))
    have hG := HG.out.below hB1 HG.out.lt
    have g0 := hG.c0
    have g1 := hG.c1
    have HY1 := Lib.hid (HY.out.below hB1)
    clear hB1 hG
    go_wp2_with fail
    refine (small_is rfl HT.out _ _ _ _ HYm.out HYA.out HY1.out).mono ?_
    rintro e w2 ⟨rfl, hB2⟩
    have HB2 := Lib.hid (HB1.out.trans (hB2.mono HB1.out.size))
    clear hB2 g0 g1
    go_wp2_with fail
    refine (known_any _).mono ?_
    rintro e w3 ⟨rfl, hB3⟩
    have HB3 := Lib.hid (HB2.out.trans (hB3.mono HB2.out.size))
    clear hB3
    go_wp2
    go_ret
    exact ⟨rfl, HB3.out⟩
  have HT := Lib.hid ht
  clear ht
  obtain ⟨r, hr⟩ : ∃ r, eqFm n1 xss n2 yss = r := ⟨_, rfl⟩
  have HR := Lib.hid hr
  have er : (r != r) = false := by simp
  clear hr
  go_enter Try.func5, Try.ntmps5
  go_wp2_with fail
  refine (small_is rfl HS.out _ _ _ _ HXm.out HXA.out HX.out).mono ?_
  rintro e w1 ⟨rfl, hB1⟩
  have HB1 := Lib.hid (HB.out.trans (hB1.mono (by simp; omega)))
  have HF1 := Lib.hid (HF.out.below hB1 HF.out.lt)
  have HG1 := Lib.hid (HG.out.below hB1 HG.out.lt)
  have HX1 := Lib.hid (HX.out.below hB1)
  have HY1 := Lib.hid (HY.out.below hB1)
  clear hB1 HX HY HF HG HB
  have f0 := HF1.out.c0
  have f1 := HF1.out.c1
  have g0 := HG1.out.c0
  have g1 := HG1.out.c1
  go_wp2_with fail
  refine (small_is rfl HT.out _ _ _ _ HYm.out HYA.out HY1.out).mono ?_
  rintro e w2 ⟨rfl, hB2⟩
  have HB2 := Lib.hid (HB1.out.trans (hB2.mono HB1.out.size))
  have HF2 := Lib.hid (HF1.out.below hB2 HF1.out.lt)
  have HG2 := Lib.hid (HG1.out.below hB2 HG1.out.lt)
  have HX2 := Lib.hid (HX1.out.below hB2)
  have HY2 := Lib.hid (HY1.out.below hB2)
  clear hB2 HX1 HY1 HF1 HG1 HB1 f0 f1 g0 g1
  have f0 := HF2.out.c0
  have f1 := HF2.out.c1
  go_wp2_with fail
  refine (copy_any _ _ _ _ _ (by omega) (fun z hz => Nat.le_trans (HX40.out z hz) (by omega)) HX2.out).mono ?_
  rintro e w3 ⟨G, b, rfl, hC, hB3⟩
  have HC3 := Lib.hid (hC.below (boxed w3 (.cells #[.int .i64 n1, .slice (some ⟨b, 0, none⟩) xss.length xss.length] 24)))
  have hb1 := hB3.trans ((boxed w3 (.cells #[.int .i64 n1, .slice (some ⟨b, 0, none⟩) xss.length xss.length] 24)).mono hB3.size)
  have HF3 := Lib.hid (HF2.out.below hb1 HF2.out.lt)
  have HG3 := Lib.hid (HG2.out.below hb1 HG2.out.lt)
  have HX3 := Lib.hid (HX2.out.below hb1)
  have HY3 := Lib.hid (HY2.out.below hb1)
  have HB3 := Lib.hid (HB2.out.trans (hb1.mono HB2.out.size))
  have HQ3 := Lib.hid (Two.new w3 (.int .i64 n1) (.slice (some ⟨b, 0, none⟩) xss.length xss.length))
  have h23 : w2.heap.size ≤ w3.heap.size := hB3.size
  have HB23 := Lib.hid hb1
  have HGJ : Hid (∀ j, j < xss.length → G j < w3.heap.size ∧ w2.heap.size ≤ b ∧ b < G j) := fun j hj => ⟨(Array.getElem?_eq_some_iff.1 (hC.rows j _ hj (getD_some xss [] j hj))).1, hC.base, hC.past j hj⟩
  have hf2 : w.heap.size + 1 < w2.heap.size := HG2.out.lt
  clear hC hb1 hB3 HY2 HF2 HG2 HB2 f0 f1
  go_wp2
  generalize hW4 : w3.alloc (.cells #[.int .i64 n1, .slice (some ⟨b, 0, none⟩) xss.length xss.length] 24) = w4 at HC3 HF3 HG3 HX3 HY3 HB3 HQ3 HB23 ⊢
  clear hW4
  have hf4 : w.heap.size < w4.heap.size := HF3.out.lt
  have hg4 : w.heap.size + 1 < w4.heap.size := HG3.out.lt
  have hq4 : w3.heap.size < w4.heap.size := HQ3.out.lt
  have HH : Hid (∀ w', Hid (Below w4.heap.size w4 w') → (w'.cell? ⟨w.heap.size, 0, none⟩ = some (.int .i64 n1) ∧ w'.cell? ⟨w.heap.size, 1, none⟩ = some (.slice a1 xss.length c1) ∧ w'.cell? ⟨w.heap.size + 1, 0, none⟩ = some (.int .i64 n2) ∧ w'.cell? ⟨w.heap.size + 1, 1, none⟩ = some (.slice a2 yss.length c2) ∧ w'.cell? ⟨w3.heap.size, 0, none⟩ = some (.int .i64 n1) ∧ w'.cell? ⟨w3.heap.size, 1, none⟩ = some (.slice (some ⟨b, 0, none⟩) xss.length xss.length) ∧ Hid (Below w4.heap.size w4 w'))) :=
    fun w' hb => ⟨(HF3.out.below hb.out hf4).c0, (HF3.out.below hb.out hf4).c1, (HG3.out.below hb.out hg4).c0, (HG3.out.below hb.out hg4).c1, (HQ3.out.below hb.out hq4).c0, (HQ3.out.below hb.out hq4).c1, hb⟩
  have HD : Hid (Below w4.heap.size w4 w4.drew) := (Below.refl _ _).drew
  have HCR := Lib.hid HC3.out.readsR
  have Kcf : Hid (∀ W, Hid (Below w4.heap.size w4 W) → Calls Try.prog 18 #[.agg #[.int .i64 n1, .slice (some ⟨b, 0, none⟩) xss.length xss.length], .agg #[.int .i64 n1, .slice a1 xss.length c1]] W fun e w' => e = .returned (.bool true) ∧ Hid (Below w4.heap.size w4 w')) := fun W hW =>
    (equalFormula_is (n := n1) (k := n1) rfl rfl (eqFm_refl n1 xss) _ _ _ _ W HXm.out HXA.out (HCR.out.below hW.out) (HX3.out.below hW.out)).mono fun e w' ⟨he, hb⟩ => ⟨he, hW.out.trans (hb.mono hW.out.size)⟩
  have Kfc : Hid (∀ W, Hid (Below w4.heap.size w4 W) → Calls Try.prog 19 #[.agg #[.int .i64 n1, .slice a1 xss.length c1], .agg #[.int .i64 n1, .slice (some ⟨b, 0, none⟩) xss.length xss.length]] W fun e w' => e = .returned (.bool true) ∧ Hid (Below w4.heap.size w4 w')) := fun W hW =>
    (cnfEqual_is (n := n1) (k := n1) rfl rfl (eqFm_refl n1 xss) _ _ _ _ W HXm.out HXA.out (HX3.out.below hW.out) (HCR.out.below hW.out)).mono fun e w' ⟨he, hb⟩ => ⟨he, hW.out.trans (hb.mono hW.out.size)⟩
  have Kfg : Hid (∀ W, Hid (Below w4.heap.size w4 W) → Calls Try.prog 19 #[.agg #[.int .i64 n1, .slice a1 xss.length c1], .agg #[.int .i64 n2, .slice a2 yss.length c2]] W fun e w' => e = .returned (.bool r) ∧ Hid (Below w4.heap.size w4 w')) := fun W hW =>
    (cnfEqual_is (n := n1) (k := n2) rfl rfl HR.out _ _ _ _ W HXm.out HXA.out (HX3.out.below hW.out) (HY3.out.below hW.out)).mono fun e w' ⟨he, hb⟩ => ⟨he, hW.out.trans (hb.mono hW.out.size)⟩
  have Kgf : Hid (∀ W, Hid (Below w4.heap.size w4 W) → Calls Try.prog 19 #[.agg #[.int .i64 n2, .slice a2 yss.length c2], .agg #[.int .i64 n1, .slice a1 xss.length c1]] W fun e w' => e = .returned (.bool r) ∧ Hid (Below w4.heap.size w4 w')) := fun W hW =>
    (cnfEqual_is (n := n2) (k := n1) rfl rfl (by rw [eqFm_symm]; exact HR.out) _ _ _ _ W HYm.out HYA.out (HY3.out.below hW.out) (HX3.out.below hW.out)).mono fun e w' ⟨he, hb⟩ => ⟨he, hW.out.trans (hb.mono hW.out.size)⟩
  have Efg : Hid (∀ W, Hid (Below w4.heap.size w4 W) → Calls Try.prog 18 #[.agg #[.int .i64 n1, .slice a1 xss.length c1], .agg #[.int .i64 n2, .slice a2 yss.length c2]] W fun e w' => e = .returned (.bool r) ∧ Hid (Below w4.heap.size w4 w')) := fun W hW =>
    (equalFormula_is (n := n1) (k := n2) rfl rfl HR.out _ _ _ _ W HXm.out HXA.out (HX3.out.below hW.out) (HY3.out.below hW.out)).mono fun e w' ⟨he, hb⟩ => ⟨he, hW.out.trans (hb.mono hW.out.size)⟩
  go_region_held3 (fun w' => w'.cell? ⟨w.heap.size, 0, none⟩ = some (.int .i64 n1) ∧ w'.cell? ⟨w.heap.size, 1, none⟩ = some (.slice a1 xss.length c1) ∧ w'.cell? ⟨w.heap.size + 1, 0, none⟩ = some (.int .i64 n2) ∧ w'.cell? ⟨w.heap.size + 1, 1, none⟩ = some (.slice a2 yss.length c2) ∧ w'.cell? ⟨w3.heap.size, 0, none⟩ = some (.int .i64 n1) ∧ w'.cell? ⟨w3.heap.size, 1, none⟩ = some (.slice (some ⟨b, 0, none⟩) xss.length xss.length) ∧ Hid (Below w4.heap.size w4 w')) (first | exact HH.out _ HD | exact HH.out _ (by assumption))
    (first | (go_at_call 18; ((with_reducible refine (Kcf.out _ ?_).mono ?_)); (· assumption); rintro e w' ⟨rfl, hb⟩) | (go_at_call 18; ((with_reducible refine (Efg.out _ ?_).mono ?_)); (· assumption); rintro e w' ⟨rfl, hb⟩) | (go_at_call 19; ((with_reducible refine (Kfc.out _ ?_).mono ?_)); (· assumption); rintro e w' ⟨rfl, hb⟩) | (go_at_call 19; ((with_reducible refine (Kfg.out _ ?_).mono ?_)); (· assumption); rintro e w' ⟨rfl, hb⟩) | (go_at_call 19; ((with_reducible refine (Kgf.out _ ?_).mono ?_)); (· assumption); rintro e w' ⟨rfl, hb⟩))
  have HB5 := Lib.hid (HB3.out.trans (hb.out.mono HB3.out.size))
  have HC5 := Lib.hid (HC3.out.below hb.out)
  have HF5 := Lib.hid (HF3.out.below hb.out hf4)
  have HQ5 := Lib.hid (HQ3.out.below hb.out hq4)
  have HB25 := Lib.hid (HB23.out.trans (hb.out.mono HB23.out.size))
  have h45 := hb.out.size
  obtain ⟨w5, hw5⟩ : ∃ w5 : World, w5 = w' := ⟨_, rfl⟩
  subst hw5
  clear HH HD Kcf Kfc Kfg Kgf Efg hb HB3 HC3 HF3 HG3 HX3 HY3 HQ3 HCR HB23
  have q1 := HQ5.out.c1
  by_cases hx0 : xss.length = 0
  · have e0 : ((xss.length : Int) == 0) = true := by simp [hx0]
    clear hx0
    go_wp2_with fail
    refine (known_any _).mono ?_
    rintro e w6 ⟨rfl, hB6⟩
    have HB6 := Lib.hid (HB5.out.trans (hB6.mono HB5.out.size))
    clear hB6
    go_wp2
    go_ret
    exact ⟨rfl, HB6.out⟩
  have e0 : ((xss.length : Int) == 0) = false := by rw [beq_eq_false_iff_ne]; omega
  obtain ⟨J, hJ⟩ : ∃ J : Nat, i % (xss.length : Int) = (J : Int) := ⟨(i % (xss.length : Int)).toNat, by have := Int.emod_nonneg i (show (xss.length : Int) ≠ 0 by omega); omega⟩
  have hJl : J < xss.length := by have := Int.emod_lt_of_pos i (show (0 : Int) < (xss.length : Int) by omega); omega
  obtain ⟨z, HZ⟩ : ∃ z, Hid (xss[J]? = some z) := ⟨_, getD_some xss [] J hJl⟩
  have hzl := HX40.out z (List.mem_of_getElem? HZ.out)
  have htop : w5.cell? ⟨b, J, none⟩ = some (.slice (some ⟨G J, 0, none⟩) z.length z.length) := by
    rw [World.ownsRow.cellAt HC5.out.top J (by omega), topL_get G xss _ J hJl, if_pos hJl]
    have : xss.getD J [] = z := by have := HZ.out; rw [getD_some xss [] J hJl] at this; exact Option.some.inj this
    rw [this]
  have e1 : IntKind.i64.wrap i = i := IntWalk.i64_in _ (by omega)
  have e2 : i.tmod (xss.length : Int) = (J : Int) := by rw [Int.tmod_eq_emod_of_nonneg hi0]; exact hJ
  have e3 : IntKind.i64.wrap (J : Int) = (J : Int) := IntWalk.i64_in _ (by omega)
  have hJ1 : (J : Int) < (xss.length : Int) := by omega
  have hJ0 : (0 : Int) ≤ (J : Int) := by omega
  go_wp2
  go_quiet (fail)
  have f0 := HF5.out.c0
  have f1 := HF5.out.c1
  by_cases hm0 : z.length = 0
  · have em : ((z.length : Int) == 0) = true := by simp [hm0]
    clear hm0 htop e1 e2 e3 hJ hJ0 hJ1
    go_wp2_with fail
    refine (known_any _).mono ?_
    rintro e w6 ⟨rfl, hB6⟩
    have HB6 := Lib.hid ((HB5.out.trans (quietBelow ⟨_, rfl⟩ _)).trans (hB6.mono (HB5.out.trans (quietBelow ⟨_, rfl⟩ _)).size))
    clear hB6
    go_wp2
    go_ret
    exact ⟨rfl, HB6.out⟩
  have em : ((z.length : Int) == 0) = false := by rw [beq_eq_false_iff_ne]; omega
  clear htop e1 e2 e3 hJ hJ0 hJ1 q1
  go_wp2_with fail
  refine (copyFormula_any n1 a1 c1 xss _ (by omega) (fun y hy => Nat.le_trans (HX40.out y hy) (by omega)) (HX2.out.below (HB25.out.trans (quietBelow ⟨_, rfl⟩ _)))).mono ?_
  rintro e w6 ⟨a6, c6, rfl, hbt, hB6⟩
  obtain ⟨hgj, hbb, hbg⟩ := HGJ.out J hJl
  have hB56 := (quietBelow ⟨_, rfl⟩ w5.heap.size : Below w5.heap.size w5 _).trans (hB6.mono (quietBelow ⟨_, rfl⟩ w5.heap.size : Below w5.heap.size w5 _).size)
  have HB56 := Lib.hid hB56
  have h56 : w5.heap.size ≤ w6.heap.size := hB56.size
  have HBT := Lib.hid (hbt.weaken (quietBelow ⟨_, rfl⟩ w5.heap.size : Below w5.heap.size w5 _).size)
  clear hB56 hbt hB6 f0 f1
  have h4w : w3.heap.size + 1 ≤ w5.heap.size := by omega
  obtain ⟨P, hP⟩ : ∃ P : Nat, k % (z.length : Int) = (P : Int) := ⟨(k % (z.length : Int)).toNat, by have := Int.emod_nonneg k (show (z.length : Int) ≠ 0 by omega); omega⟩
  have hPl : P < z.length := by have := Int.emod_lt_of_pos k (show (0 : Int) < (z.length : Int) by omega); omega
  obtain ⟨x, HXP⟩ : ∃ x, Hid (z[P]? = some x) := ⟨_, getD_some z 0 P hPl⟩
  have hxw := HXw.out z (List.mem_of_getElem? HZ.out) x (List.mem_of_getElem? HXP.out)
  have HC6 := Lib.hid (HC5.out.below HB56.out)
  have HF6 := Lib.hid (HF5.out.below HB56.out (by omega))
  have HQ6 := Lib.hid (HQ5.out.below HB56.out (by omega))
  have hgj6 : G J < w6.heap.size := by omega
  have hcx : w6.cell? ⟨G J, P, none⟩ = some (.int .i64 x) := by
    rw [cell_of_row w6 (G J) P _ _ _ (HC6.out.rows J z hJl HZ.out), List.getElem?_toArray, List.getElem?_map, HXP.out]; rfl
  have hfx : w6.frozen? ⟨G J, P, none⟩ = false := by
    have := HC6.out.rows J z hJl HZ.out
    simp [World.frozen?, this]
  have hfw : w.heap.size < w2.heap.size := by omega
  have hn1 : ¬ G J = w.heap.size := by omega
  have hn2 : ¬ w.heap.size = G J := by omega
  have hn3 : ¬ w3.heap.size = G J := by omega
  have d0 := HF6.out.c0
  have d1 := HF6.out.c1
  have hw6 : w.heap.size < w6.heap.size := by omega
  have HV := Lib.hid (eqL_put HZ.out HXP.out (wrap_ne hxw))
  have HVF : Hid (eqFm n1 xss n1 (xss.set J (z.set P (wrap64 (x + 1)))) = false) := by unfold Hid eqFm; rw [HV.out, Bool.and_false]
  have HL8 : Hid ((xss.set J (z.set P (wrap64 (x + 1)))).length = xss.length) := by unfold Hid; rw [List.length_set]
  have HR8 := Lib.hid ((HC6.out.put (P := P) (wrap64 (x + 1)) HZ.out).alloc (.cells #[.int .i64 n1, .slice a6 xss.length c6] 24))
  have HF8 := Lib.hid ((HF6.out.far (p := ⟨G J, P, none⟩) hn2 (.int .i64 (wrap64 (x + 1)))).alloc (.cells #[.int .i64 n1, .slice a6 xss.length c6] 24))
  have HQ8 := Lib.hid ((HQ6.out.far (p := ⟨G J, P, none⟩) hn3 (.int .i64 (wrap64 (x + 1)))).alloc (.cells #[.int .i64 n1, .slice a6 xss.length c6] 24))
  have HX8 : Hid (RowsR .i64 ((w6.setCell ⟨G J, P, none⟩ (.int .i64 (wrap64 (x + 1)))).alloc (.cells #[.int .i64 n1, .slice a6 xss.length c6] 24)) a1 xss) :=
    HX2.out.below (((HB25.out.trans (HB56.out.mono (by omega))).setCell (p := ⟨G J, P, none⟩) (by show w2.heap.size ≤ G J; omega) _).alloc (by simp; omega) _)
  have HB8 : Hid (Below w.heap.size w ((w6.setCell ⟨G J, P, none⟩ (.int .i64 (wrap64 (x + 1)))).alloc (.cells #[.int .i64 n1, .slice a6 xss.length c6] 24))) :=
    ((HB5.out.trans (HB56.out.mono HB5.out.size)).setCell (p := ⟨G J, P, none⟩) (by show w.heap.size ≤ G J; omega) _).alloc (by simp; omega) _
  have HW8 : Hid (RowsR .i64 ((w6.setCell ⟨G J, P, none⟩ (.int .i64 (wrap64 (x + 1)))).alloc (.cells #[.int .i64 n1, .slice a6 xss.length c6] 24)) a6 xss) := by
    obtain ⟨a', c', e, _, _, _, h2⟩ := (HBT.out.setCell (p := ⟨G J, P, none⟩) (by show G J < w5.heap.size; omega) (.int .i64 (wrap64 (x + 1)))).rows
    injection e with e1 _ _
    rw [e1]; exact h2.alloc _
  clear HX2 HB25 HB56 HC6 HC5 HF6 HQ6 HF5 HQ5 HB5 HBT HXP hxw HV
  go_wp2_with fail
  generalize (w6.setCell ⟨G J, P, none⟩ (.int .i64 (wrap64 (x + 1)))).alloc (.cells #[.int .i64 n1, .slice a6 xss.length c6] 24) = w8 at HR8 HF8 HQ8 HX8 HB8 HW8 ⊢
  refine (equalFormula_is (n := n1) (k := n1) rfl rfl (eqFm_refl n1 xss) _ _ _ _ _ HXm.out HXA.out HX8.out HW8.out).mono ?_
  rintro e w9 ⟨rfl, hB9⟩
  have hF9 := HF8.out.below hB9 HF8.out.lt
  have hQ9 := HQ8.out.below hB9 HQ8.out.lt
  have HR9 := Lib.hid (HR8.out.below hB9)
  have HX9 := Lib.hid (HX8.out.below hB9)
  have HB9 := Lib.hid (HB8.out.trans (hB9.mono HB8.out.size))
  clear d0 d1 hcx hfx hB9 HR8 HF8 HQ8 HX8 HB8 HW8
  have d0 := hF9.c0
  have d1 := hF9.c1
  have q0 := hQ9.c0
  have q1 := hQ9.c1
  clear hF9 hQ9
  go_wp2_with fail
  refine (cnfEqual_is (n := n1) (k := n1) rfl HL8.out HVF.out _ _ _ _ _ HXm.out HXA.out HX9.out HR9.out).mono ?_
  rintro e w10 ⟨rfl, hB10⟩
  have HB10 := Lib.hid (HB9.out.trans (hB10.mono HB9.out.size))
  clear hB10 HB9 HR9 HX9 d0 d1 q0 q1
  go_wp2_with fail
  refine (known_any _).mono ?_
  rintro e w11 ⟨rfl, hB11⟩
  have HB11 := Lib.hid (HB10.out.trans (hB11.mono HB10.out.size))
  clear hB11
  go_wp2
  go_ret
  exact ⟨rfl, HB11.out⟩
end Go.Proofs.Ytnkemkgepipjcaa
