/-
  DimacsSame's walk.
-/
import Derived.Test.YtkannkalbhmlcaaDoorDimR
import Derived.Lib.SlicesS
namespace Go.Proofs.YtkannkalbhmlcaaDoor
open Go.RowKit Go.Lib
open Go.RowKit (Below)

theorem same_text {V U : Int} {xs ys : List (List Int)} (h1 : 1 ≤ V) (h2 : V ≤ 12) (h3 : 1 ≤ U) (h4 : U ≤ 12) (hx : fitB xs = true) (hy : fitB ys = true) {L M : List (List Int)} (hL : fitL V xs = L) (hM : fitL U ys = M) {s t : ByteArray} (hs : str (formT V L) = s) (ht : str (formT U M) = t) :
    (s.toList == t.toList) = eqFm V L U M := by
  subst hL hM hs ht
  by_cases h : V = U ∧ fitL V xs = fitL U ys
  · obtain ⟨rfl, h⟩ := h
    rw [← h, eqFm_refl]
    exact beq_iff_eq.2 rfl
  · have e1 : eqFm V (fitL V xs) U (fitL U ys) = false := by
      unfold eqFm eqL
      rw [Bool.and_eq_false_iff]
      by_cases hv : V = U
      · exact .inr (decide_eq_false fun e => h ⟨hv, e⟩)
      · exact .inl (beq_eq_false_iff_ne.2 hv)
    rw [e1]
    rw [bytes_beq_false_iff]
    intro e
    have e2 : formT V (fitL V xs) = formT U (fitL U ys) := congrArg W8 e
    have e3 := (fitL_parse h1 h2 hx).symm.trans ((congrArg parseB e2).trans (fitL_parse h3 h4 hy))
    injection e3 with e4 e5
    exact h ⟨e4, e5⟩

set_option maxRecDepth 100000 in
set_option maxHeartbeats 4000000 in
theorem dimacsSame_walk (w : World) (n : Int) (hn : (Lit.int .u8 n).wf = true) (m : Int) (hm : (Lit.int .u8 m).wf = true) (a : Option Addr) (c : Nat) (xss : List (List Int)) (hR : RowsR .i8 w a xss) (hA : AllLen xss) (hxm : xss.length ≤ maxLen) (hwf : ∀ z ∈ xss, ∀ x ∈ z, (Lit.int .i8 x).wf = true)
    (b : Option Addr) (d : Nat) (yss : List (List Int)) (hRy : RowsR .i8 w b yss) (hAy : AllLen yss) (hym : yss.length ≤ maxLen) (hwy : ∀ z ∈ yss, ∀ x ∈ z, (Lit.int .i8 x).wf = true) (he : Env w) :
    Calls Tryd.prog 9 #[.int .u8 n, .int .u8 m, .slice a xss.length c, .slice b yss.length d] w fun e w' => e = .returned (.bool true) ∧ Below w.heap.size w w' := by
  obtain ⟨hn0, hn1⟩ := u8_range hn
  obtain ⟨hm0, hm1⟩ := u8_range hm
  obtain ⟨V, hV⟩ : ∃ V : Int, 1 + n % 12 = V := ⟨_, rfl⟩
  obtain ⟨U, hU⟩ : ∃ U : Int, 1 + m % 12 = U := ⟨_, rfl⟩
  have hV1 : 1 ≤ V := by omega
  have hV2 : V ≤ 12 := by omega
  have hU1 : 1 ≤ U := by omega
  have hU2 : U ≤ 12 := by omega
  have HA := Lib.hid hA
  have HR := Lib.hid hR
  have HW := Lib.hid hwf
  have HAy := Lib.hid hAy
  have HRy := Lib.hid hRy
  have HWy := Lib.hid hwy
  have HE := Lib.hid he
  clear hA hR hwf he hn hm hAy hRy hwy
  go_enter Tryd.func9, Tryd.ntmps9
  go_wp2_with fail
  refine (fit_any n V hn0 hn1 hV a c xss _ HR.out HA.out hxm HW.out).mono ?_
  rintro e w1 (⟨hb, rfl, hB1⟩ | ⟨hb, a1, c1, rfl, hc1, hc2, hR1, hB1⟩)
  · have HB1 := Lib.hid (hB1.alloc hB1.size (.cells #[.int .i64 0, .slice none 0 0] 24))
    have HRy1 := Lib.hid (HRy.out.below HB1.out)
    clear hB1 hb
    go_wp2_with fail
    refine (fit_any m U hm0 hm1 hU b d yss _ HRy1.out HAy.out hym HWy.out).mono ?_
    rintro e w2 (⟨hb, rfl, hB2⟩ | ⟨hb, a2, c2, rfl, hc3, hc4, hR2, hB2⟩)
    · have HB2 := Lib.hid ((HB1.out.trans (hB2.mono HB1.out.size)).alloc (Nat.le_trans HB1.out.size hB2.size) (.cells #[.int .i64 0, .slice none 0 0] 24))
      clear hB2 HB1
      go_wp2_with fail
      refine (known_any _ (HE.out.below HB2.out)).mono ?_
      rintro e w3 ⟨rfl, hB3⟩
      have HB3 := Lib.hid (HB2.out.trans (hB3.mono HB2.out.size))
      clear hB3
      go_wp2
      go_ret
      exact ⟨rfl, HB3.out⟩
    · have HB2 := Lib.hid ((HB1.out.trans (hB2.mono HB1.out.size)).alloc (Nat.le_trans HB1.out.size hB2.size) (.cells #[.int .i64 U, .slice a2 yss.length c2] 24))
      clear hB2 HB1 hR2
      go_wp2_with fail
      refine (known_any _ (HE.out.below HB2.out)).mono ?_
      rintro e w3 ⟨rfl, hB3⟩
      have HB3 := Lib.hid (HB2.out.trans (hB3.mono HB2.out.size))
      clear hB3
      go_wp2
      go_ret
      exact ⟨rfl, HB3.out⟩
  obtain ⟨L, hL⟩ : ∃ L, fitL V xss = L := ⟨_, rfl⟩
  obtain ⟨s, hs⟩ : ∃ s, str (formT V L) = s := ⟨_, rfl⟩
  rw [hL] at hR1
  have HF := Lib.hid (Two.new w1 (.int .i64 V) (.slice a1 xss.length c1))
  have HR1 := Lib.hid (hR1.alloc (.cells #[.int .i64 V, .slice a1 xss.length c1] 24))
  have HB1 := Lib.hid (hB1.alloc hB1.size (.cells #[.int .i64 V, .slice a1 xss.length c1] 24))
  have Hb := Lib.hid hb
  have HL := Lib.hid hL
  have HS := Lib.hid hs
  have hLl : xss.length = L.length := by rw [← hL]; exact (fitL_len V xss).symm
  have HLA : Hid (AllLen L) := by unfold Hid; rw [← hL]; exact fitL_all hb
  have hfm : Hid (L.length ≤ maxLen) := by unfold Hid; rw [← hLl]; exact hxm
  rw [hLl] at HF HR1 HB1 ⊢
  have HRy1 := Lib.hid (HRy.out.below HB1.out)
  clear hR1 hB1 hb hL hs hxm
  go_wp2_with fail
  refine (fit_any m U hm0 hm1 hU b d yss _ HRy1.out HAy.out hym HWy.out).mono ?_
  rintro e w2 (⟨hb, rfl, hB2⟩ | ⟨hb, a2, c2, rfl, hc3, hc4, hR2, hB2⟩)
  · have HB2 := Lib.hid ((HB1.out.trans (hB2.mono HB1.out.size)).alloc (Nat.le_trans HB1.out.size hB2.size) (.cells #[.int .i64 0, .slice none 0 0] 24))
    clear hB2 HB1
    go_wp2_with fail
    refine (known_any _ (HE.out.below HB2.out)).mono ?_
    rintro e w3 ⟨rfl, hB3⟩
    have HB3 := Lib.hid (HB2.out.trans (hB3.mono HB2.out.size))
    clear hB3
    go_wp2
    go_ret
    exact ⟨rfl, HB3.out⟩
  obtain ⟨M, hM⟩ : ∃ M, fitL U yss = M := ⟨_, rfl⟩
  obtain ⟨t, ht⟩ : ∃ t, str (formT U M) = t := ⟨_, rfl⟩
  rw [hM] at hR2
  have HQ := Lib.hid (same_text hV1 hV2 hU1 hU2 Hb.out hb HL.out hM HS.out ht)
  have HM := Lib.hid hM
  have HT := Lib.hid ht
  have Hc := Lib.hid hb
  have hMl : yss.length = M.length := by rw [← hM]; exact (fitL_len U yss).symm
  have HMA : Hid (AllLen M) := by unfold Hid; rw [← hM]; exact fitL_all hb
  rw [hMl]
  clear HRy
  have HR2 := Lib.hid ((HR1.out.below hB2).alloc (.cells #[.int .i64 U, .slice a2 M.length c2] 24))
  have HS2 := Lib.hid (hR2.alloc (.cells #[.int .i64 U, .slice a2 M.length c2] 24))
  have HF2 := Lib.hid ((HF.out.below hB2 HF.out.lt).alloc (.cells #[.int .i64 U, .slice a2 M.length c2] 24))
  have HG2 := Lib.hid (Two.new w2 (.int .i64 U) (.slice a2 M.length c2))
  have HB2 := Lib.hid ((HB1.out.trans (hB2.mono HB1.out.size)).alloc (Nat.le_trans HB1.out.size hB2.size) (.cells #[.int .i64 U, .slice a2 M.length c2] 24))
  have hz2 : w1.heap.size < w2.heap.size := Nat.lt_of_lt_of_le HF.out.lt hB2.size
  have c0 := HF2.out.c0
  have c1 := HF2.out.c1
  clear hR2 hB2 hb hM ht hym HR1 HB1 HF HRy1
  go_wp2_with fail
  refine (form_is Hb.out hV1 hV2 HL.out HS.out hLl _ _ _ HR2.out (HE.out.below HB2.out)).mono ?_
  rintro e w3 ⟨rfl, hB3⟩
  have HR3 := Lib.hid (HR2.out.below hB3)
  have HS3 := Lib.hid (HS2.out.below hB3)
  have HF3 := Lib.hid (HF2.out.below hB3 HF2.out.lt)
  have HG3 := Lib.hid (HG2.out.below hB3 HG2.out.lt)
  have HB3 := Lib.hid (HB2.out.trans (hB3.mono HB2.out.size))
  have hz3 : w2.heap.size < w3.heap.size := HG3.out.lt
  clear c0 c1 hB3 HR2 HS2 HF2 HG2 HB2
  have d0 := HG3.out.c0
  have d1 := HG3.out.c1
  go_wp2_with fail
  refine (form_is Hc.out hU1 hU2 HM.out HT.out hMl _ _ _ HS3.out (HE.out.below HB3.out)).mono ?_
  rintro e w4 ⟨rfl, hB4⟩
  have HR4 := Lib.hid (HR3.out.below hB4)
  have HS4 := Lib.hid (HS3.out.below hB4)
  have HF4 := Lib.hid (HF3.out.below hB4 HF3.out.lt)
  have HG4 := Lib.hid (HG3.out.below hB4 HG3.out.lt)
  have HB4 := Lib.hid (HB3.out.trans (hB4.mono HB3.out.size))
  clear d0 d1 hB4 HR3 HS3 HF3 HG3 HB3
  have c0 := HF4.out.c0
  have c1 := HF4.out.c1
  have d0 := HG4.out.c0
  have d1 := HG4.out.c1
  have hz4 : w2.heap.size < w4.heap.size := HG4.out.lt
  obtain ⟨r, hr⟩ : ∃ r, eqFm V L U M = r := ⟨_, rfl⟩
  have hq : (s.toList == t.toList) = r := by rw [← hr]; exact HQ.out
  have HR := Lib.hid hr
  have hq2 : (r == r) = true := by simp
  clear hr HQ
  go_wp2_with fail
  refine (equalFormula_is (n := V) (k := U) rfl rfl HR.out _ _ _ _ _ hfm.out HLA.out HR4.out HS4.out).mono ?_
  rintro e w5 ⟨rfl, hB5⟩
  have HB5 := Lib.hid (HB4.out.trans (hB5.mono HB4.out.size))
  clear hB5 HB4 HF4 HG4 HR4 HS4 c0 c1 d0 d1
  go_wp2_with fail
  refine (known_any _ (HE.out.below HB5.out)).mono ?_
  rintro e w6 ⟨rfl, hB6⟩
  have HB6 := Lib.hid (HB5.out.trans (hB6.mono HB5.out.size))
  clear hB6
  go_wp2
  go_ret
  exact ⟨rfl, HB6.out⟩
end Go.Proofs.YtkannkalbhmlcaaDoor
