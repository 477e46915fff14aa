/-
  DimacsBack's walk.
-/
import Derived.Test.YtkannkalbhmlcaaDoorDimR
import Derived.Deep.RegionHeld3
import Derived.Deep.DrawnRows
namespace Go.Proofs.YtkannkalbhmlcaaDoor
open Go.RowKit Go.Lib
open Go.RowKit (Below)

set_option maxRecDepth 100000 in
set_option maxHeartbeats 4000000 in
theorem dimacsBack_walk (w : World) (n : Int) (hn : (Lit.int .u8 n).wf = true) (a : Option Addr) (c : Nat) (zss : List (List Int)) (hR : RowsR .i8 w a zss) (hA : AllLen zss) (hm : zss.length ≤ maxLen) (hwf : ∀ z ∈ zss, ∀ x ∈ z, (Lit.int .i8 x).wf = true) (he : Env w) :
    Calls Tryd.prog 6 #[.int .u8 n, .slice a zss.length c] w fun e w' => e = .returned (.bool true) ∧ Below w.heap.size w w' := by
  obtain ⟨hn0, hn1⟩ := u8_range hn
  obtain ⟨V, hV⟩ : ∃ V : Int, 1 + n % 12 = V := ⟨_, rfl⟩
  have hV1 : 1 ≤ V := by omega
  have hV2 : V ≤ 12 := by omega
  have HA := Lib.hid hA
  have HR := Lib.hid hR
  have HW := Lib.hid hwf
  have HE := Lib.hid he
  clear hA hR hwf he hn
  go_enter Tryd.func6, Tryd.ntmps6
  go_wp2_with fail
  refine (fit_any n V hn0 hn1 hV a c zss _ HR.out HA.out hm HW.out).mono ?_
  rintro e w1 (⟨hb, rfl, hB1⟩ | ⟨hb, a1, c1, rfl, hc1, hc2, hR1, hB1⟩)
  · have HB1 := Lib.hid (hB1.alloc hB1.size (.cells #[.int .i64 0, .slice none 0 0] 24))
    clear hB1
    go_wp2_with fail
    refine (known_any _ (HE.out.below HB1.out)).mono ?_
    rintro e w2 ⟨rfl, hB2⟩
    have HB2 := Lib.hid (HB1.out.trans (hB2.mono HB1.out.size))
    clear hB2
    go_wp2
    go_ret
    exact ⟨rfl, HB2.out⟩
  obtain ⟨L, hL⟩ : ∃ L, fitL V zss = L := ⟨_, rfl⟩
  obtain ⟨s, hs⟩ : ∃ s, str (formT V L) = s := ⟨_, rfl⟩
  rw [hL] at hR1
  have HF := Lib.hid (Two.new w1 (.int .i64 V) (.slice a1 zss.length c1))
  have HR1 := Lib.hid (hR1.alloc (.cells #[.int .i64 V, .slice a1 zss.length c1] 24))
  have HB1 := Lib.hid (hB1.alloc hB1.size (.cells #[.int .i64 V, .slice a1 zss.length c1] 24))
  have Hb := Lib.hid hb
  have HL := Lib.hid hL
  have HS := Lib.hid hs
  have hLl : zss.length = L.length := by rw [← hL]; exact (fitL_len V zss).symm
  have hLm : L.length ≤ maxLen := by rw [← hLl]; exact hm
  have HLA : Hid (AllLen L) := by unfold Hid; rw [← hL]; exact fitL_all hb
  have hfm : Hid (L.length ≤ maxLen) := hLm
  rw [hLl] at HF HR1 HB1 ⊢
  clear hR1 hB1 hb hL hs hm hLm
  go_wp2_with fail
  refine (form_is Hb.out hV1 hV2 HL.out HS.out hLl _ _ _ HR1.out (HE.out.below HB1.out)).mono ?_
  rintro e w2 ⟨rfl, hB2⟩
  have HF2 := Lib.hid (HF.out.below hB2 HF.out.lt)
  have HR2 := Lib.hid (HR1.out.below hB2)
  have HB2 := Lib.hid (HB1.out.trans (hB2.mono HB1.out.size))
  have hz2 : w1.heap.size < w2.heap.size := HF2.out.lt
  clear hB2 HF HR1 HB1
  go_wp2_with fail
  refine (back_is Hb.out hV1 hV2 HL.out HS.out hLl _ (HE.out.below HB2.out)).mono ?_
  rintro e w3 ⟨a3, c3, rfl, hR3, hB3⟩
  have HF3 := Lib.hid ((HF2.out.below hB3 hz2).alloc (.cells #[.int .i64 V, .slice a3 L.length c3] 24))
  have HR3 := Lib.hid ((HR2.out.below hB3).alloc (.cells #[.int .i64 V, .slice a3 L.length c3] 24))
  have HB3 := Lib.hid ((HB2.out.trans (hB3.mono HB2.out.size)).alloc (Nat.le_trans HB2.out.size hB3.size) (.cells #[.int .i64 V, .slice a3 L.length c3] 24))
  have HG3 := Lib.hid (Two.new w3 (.int .i64 V) (.slice a3 L.length c3))
  have HQ3 := Lib.hid (hR3.alloc (.cells #[.int .i64 V, .slice a3 L.length c3] 24))
  have hz3 : w1.heap.size < w3.heap.size := Nat.lt_of_lt_of_le hz2 hB3.size
  have c0 := HF3.out.c0
  have c1 := HF3.out.c1
  have d0 := HG3.out.c0
  have d1 := HG3.out.c1
  clear hB3 hR3 HF2 HR2 HB2 hz2
  go_wp2_with fail
  refine (equalFormula_is (n := V) (k := V) rfl rfl (eqFm_refl V L) _ _ _ _ _ hfm.out HLA.out HR3.out HQ3.out).mono ?_
  rintro e w4 ⟨rfl, hB4⟩
  have HB4 := Lib.hid (HB3.out.trans (hB4.mono HB3.out.size))
  clear hB4 HB3 HF3 HG3 HR3 HQ3 c0 c1 d0 d1
  go_wp2_with fail
  refine (known_any _ (HE.out.below HB4.out)).mono ?_
  rintro e w5 ⟨rfl, hB5⟩
  have HB5 := Lib.hid (HB4.out.trans (hB5.mono HB4.out.size))
  clear hB5
  go_wp2
  go_ret
  exact ⟨rfl, HB5.out⟩
end Go.Proofs.YtkannkalbhmlcaaDoor
