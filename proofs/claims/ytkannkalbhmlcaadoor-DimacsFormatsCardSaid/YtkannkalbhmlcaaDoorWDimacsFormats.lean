/-
  DimacsFormats' walk.
-/
import Derived.Test.YtkannkalbhmlcaaDoorDimO
import Derived.Lib.SlicesS
namespace Go.Proofs.YtkannkalbhmlcaaDoor
open Go.RowKit Go.Lib
open Go.RowKit (Below)

theorem wf_i64 {x : Int} (h : (Lit.int .i64 x).wf = true) : I64 x := by
  unfold Lit.wf at h
  rw [Bool.and_eq_true, decide_eq_true_eq, decide_eq_true_eq] at h
  exact h
theorem format_to {V E : Int} {zss : List (List Int)} {s : ByteArray} {l : Nat} (hs : str (fmtS V zss) = s) (hE : fmtE V zss = E) (hl : zss.length = l) (a : Option Addr) (c : Nat) (w : World) (hm : l ≤ maxLen) (hA : AllLen zss) (hw : ∀ z ∈ zss, ∀ x ∈ z, I64 x) (h : RowsR .i64 w a zss) (he : Env w) :
    Calls Tryd.prog 13 #[.agg #[.int .i64 V, .slice a l c]] w fun e w' => e = .returned (.tuple #[.string s, .int .i64 E]) ∧ Below w.heap.size w w' := by
  subst hs hE hl
  exact format_any V a c zss w hm hA hw h he
theorem refFormat_to {V E : Int} {zss : List (List Int)} {s : ByteArray} {l : Nat} (hs : str (fmtS V zss) = s) (hE : fmtE V zss = E) (hl : zss.length = l) (a : Option Addr) (c : Nat) (w : World) (hm : l ≤ maxLen) (hA : AllLen zss) (hw : ∀ z ∈ zss, ∀ x ∈ z, I64 x) (h : RowsR .i64 w a zss) (he : Env w) :
    Calls Tryd.prog 14 #[.agg #[.int .i64 V, .slice a l c]] w fun e w' => e = .returned (.tuple #[.string s, .int .i64 E]) ∧ Below w.heap.size w w' := by
  subst hs hE hl
  exact refFormat_any V a c zss w hm hA hw h he

set_option maxRecDepth 100000 in
set_option maxHeartbeats 4000000 in
theorem dimacsFormats_walk (w : World) (n : Int) (_ : (Lit.int .i64 n).wf = true) (a : Option Addr) (c : Nat) (zss : List (List Int)) (hR : RowsR .i64 w a zss) (hA : AllLen zss) (hm : zss.length ≤ maxLen) (hw : ∀ z ∈ zss, ∀ n ∈ z, (Lit.int .i64 n).wf = true) (he : Env w) :
    Calls Tryd.prog 3 #[.agg #[.int .i64 n, .slice a zss.length c]] w fun e w' => e = .returned (.bool true) ∧ Below w.heap.size w w' := by
  have HA := Lib.hid hA
  have HM := Lib.hid hm
  have HI : Hid (∀ z ∈ zss, ∀ x ∈ z, I64 x) := fun z hz x hx => wf_i64 (hw z hz x hx)
  have HE := Lib.hid he
  have HR := Lib.hid (hR.alloc (.cells #[.int .i64 n, .slice a zss.length c] 24))
  have HB := Lib.hid (boxed w (.cells #[.int .i64 n, .slice a zss.length c] 24))
  have HF := Lib.hid (Two.new w (.int .i64 n) (.slice a zss.length c))
  obtain ⟨s, hs⟩ : ∃ s, str (fmtS n zss) = s := ⟨_, rfl⟩
  obtain ⟨E, hE⟩ : ∃ E, fmtE n zss = E := ⟨_, rfl⟩
  have HS := Lib.hid hs
  have HEE := Lib.hid hE
  have hss : (s.toList == s.toList) = true := beq_iff_eq.2 rfl
  have hee : (E == E) = true := beq_iff_eq.2 rfl
  clear hR hA hm hw he hs hE
  have q0 := HF.out.c0
  have q1 := HF.out.c1
  cases hsm : smallB zss
  · have HSM := Lib.hid hsm
    clear hsm
    go_enter Tryd.func3, Tryd.ntmps3
    go_wp2_with fail
    refine (small_is rfl HSM.out _ _ _ _ HM.out HA.out HR.out).mono ?_
    rintro e w1 ⟨rfl, hB1⟩
    have HB1 := Lib.hid (HB.out.trans (hB1.mono HB.out.size))
    clear hB1 q0 q1
    go_wp2_with fail
    refine (known_any _ (HE.out.below HB1.out)).mono ?_
    rintro e w2 ⟨rfl, hB2⟩
    have HB2 := Lib.hid (HB1.out.trans (hB2.mono HB1.out.size))
    clear hB2
    go_wp2
    go_ret
    exact ⟨rfl, HB2.out⟩
  · have HSM := Lib.hid hsm
    clear hsm
    go_enter Tryd.func3, Tryd.ntmps3
    go_wp2_with fail
    refine (small_is rfl HSM.out _ _ _ _ HM.out HA.out HR.out).mono ?_
    rintro e w1 ⟨rfl, hB1⟩
    have HB1 := Lib.hid (HB.out.trans (hB1.mono HB.out.size))
    have HR1 := Lib.hid (HR.out.below hB1)
    have HF1 := Lib.hid (HF.out.below hB1 HF.out.lt)
    clear hB1 q0 q1 HB HR HF
    have q0 := HF1.out.c0
    have q1 := HF1.out.c1
    have ht1 := HF1.out.lt
    go_wp2_with fail
    refine (format_to HS.out HEE.out rfl _ _ _ HM.out HA.out HI.out HR1.out (HE.out.below HB1.out)).mono ?_
    rintro e w2 ⟨rfl, hB2⟩
    have HB2 := Lib.hid (HB1.out.trans (hB2.mono HB1.out.size))
    have HR2 := Lib.hid (HR1.out.below hB2)
    have HF2 := Lib.hid (HF1.out.below hB2 HF1.out.lt)
    clear hB2 q0 q1 HB1 HR1 HF1
    have q0 := HF2.out.c0
    have q1 := HF2.out.c1
    have ht2 := HF2.out.lt
    go_wp2_with fail
    refine (refFormat_to HS.out HEE.out rfl _ _ _ HM.out HA.out HI.out HR2.out (HE.out.below HB2.out)).mono ?_
    rintro e w3 ⟨rfl, hB3⟩
    have HB3 := Lib.hid (HB2.out.trans (hB3.mono HB2.out.size))
    clear hB3 q0 q1 HB2 HR2 HF2
    go_wp2_with fail
    refine (known_any _ (HE.out.below HB3.out)).mono ?_
    rintro e w4 ⟨rfl, hB4⟩
    have HB4 := Lib.hid (HB3.out.trans (hB4.mono HB3.out.size))
    clear hB4
    go_wp2
    go_ret
    exact ⟨rfl, HB4.out⟩
end Go.Proofs.YtkannkalbhmlcaaDoor
