/-
  DimacsEnds' walk.
-/
import Derived.Test.YtkannkalbhmlcaaDoorDimS
namespace Go.Proofs.YtkannkalbhmlcaaDoor
open Go.RowKit Go.Lib
open Go.RowKit (Below)

theorem head_size (V : Int) (k : Nat) : 8 ≤ (headT V k).length := by
  have h1 := List.length_pos_iff.2 (itoa_ne V)
  unfold headT
  simp only [List.length_append, List.length_cons, List.length_nil]; omega

set_option maxRecDepth 100000 in
set_option maxHeartbeats 4000000 in
theorem dimacsEnds_walk (w : World) (n : Int) (hn : (Lit.int .u8 n).wf = true) (a : Option Addr) (c : Nat) (zss : List (List Int)) (hR : RowsR .i8 w a zss) (hA : AllLen zss) (hm : zss.length ≤ maxLen) (hwf : ∀ z ∈ zss, ∀ x ∈ z, (Lit.int .i8 x).wf = true)
    (more : Int) (hmo : (Lit.int .i8 more).wf = true) (he : Env w) :
    Calls Tryd.prog 10 #[.int .u8 n, .slice a zss.length c, .int .i8 more] w fun e w' => e = .returned (.bool true) ∧ Below w.heap.size w w' := by
  obtain ⟨hn0, hn1⟩ := u8_range hn
  obtain ⟨hm0, hm1⟩ := i8_range hmo
  obtain ⟨V, hV⟩ : ∃ V : Int, 1 + n % 12 = V := ⟨_, rfl⟩
  have hV1 : 1 ≤ V := by omega
  have hV2 : V ≤ 12 := by omega
  have HA := Lib.hid hA
  have HR := Lib.hid hR
  have HW := Lib.hid hwf
  have HE := Lib.hid he
  clear hA hR hwf he hn hmo
  go_enter Tryd.func10, Tryd.ntmps10
  go_wp2_with fail
  refine (fit_any n V hn0 hn1 hV a c zss _ HR.out HA.out hm HW.out).mono ?_
  rintro e w1 (⟨hb, rfl, hB1⟩ | ⟨hb, a1, c1, rfl, hc1, hc2, hR1, hB1⟩)
  · have HB1 := Lib.hid (hB1.alloc hB1.size (.cells #[.int .i64 0, .slice none 0 0] 24))
    clear hB1
    go_wp2_with fail
    refine (known_any _ (HE.out.below HB1.out)).mono ?_
    rintro e w2 ⟨rfl, hB2⟩
    have HB2 := Lib.hid (HB1.out.trans (hB2.mono HB1.out.size))
    clear hB2
    go_wp2
    go_ret
    exact ⟨rfl, HB2.out⟩
  have hl30 := (fitB_parts hb).1
  by_cases h0 : zss.length = 0
  · have HB1 := Lib.hid (hB1.alloc hB1.size (.cells #[.int .i64 V, .slice a1 zss.length c1] 24))
    have e0 : ((zss.length : Int) == 0) = true := by simp [h0]
    have q1 := (Two.new w1 (.int .i64 V) (.slice a1 zss.length c1)).c1
    clear hB1 h0
    go_wp2_with fail
    refine (known_any _ (HE.out.below HB1.out)).mono ?_
    rintro e w2 ⟨rfl, hB2⟩
    have HB2 := Lib.hid (HB1.out.trans (hB2.mono HB1.out.size))
    clear hB2
    go_wp2
    go_ret
    exact ⟨rfl, HB2.out⟩
  obtain ⟨L, hL⟩ : ∃ L, fitL V zss = L := ⟨_, rfl⟩
  obtain ⟨s, hs⟩ : ∃ s, str (formT V L) = s := ⟨_, rfl⟩
  rw [hL] at hR1
  have HF := Lib.hid (Two.new w1 (.int .i64 V) (.slice a1 zss.length c1))
  have HR1 := Lib.hid (hR1.alloc (.cells #[.int .i64 V, .slice a1 zss.length c1] 24))
  have HB1 := Lib.hid (hB1.alloc hB1.size (.cells #[.int .i64 V, .slice a1 zss.length c1] 24))
  have Hb := Lib.hid hb
  have HL := Lib.hid hL
  have HS := Lib.hid hs
  have hLl : zss.length = L.length := by rw [← hL]; exact (fitL_len V zss).symm
  have e0 : ((zss.length : Int) == 0) = false := by rw [beq_eq_false_iff_ne]; omega
  have hok : FmOk V L := by rw [← hL]; exact fitL_ok hV1 hV2 hb
  have htl : (formT V L).length ≤ 20000 := by rw [← hL]; exact fitL_text hV1 hV2 hb
  have hsz : s.size = (formT V L).length := by rw [← hs]; exact str_size _
  have hsz0 : 8 ≤ s.size := by rw [hsz]; unfold formT; rw [List.length_append]; have := head_size V L.length; omega
  have hsz1 : s.size ≤ 20000 := by omega
  obtain ⟨j, hj, HPc⟩ : ∃ j : Nat, (j = L.length + 1 ∨ j = L.length + 2) ∧ Hid (parseB (W8 (s.extract 0 (s.size - 2))) = ⟨0, [], j, 4⟩) := by
    rcases List.eq_nil_or_concat L with h1 | ⟨t, z, h1⟩
    · rw [h1] at hLl; exact absurd hLl h0
    · rw [List.concat_eq_append] at h1
      have hx : W8 (s.extract 0 (s.size - 2)) = cutT V t z := by
        rw [hsz, ← hs, h1, cutT_ends]
        simp [W8, str, ByteArray.data_extract]
      have ht : (cutT V t z).length ≤ 65536 := by
        have := congrArg List.length (cutT_ends V t z)
        rw [← h1, List.length_append] at this; simp only [List.length_cons, List.length_nil] at this; omega
      rw [h1] at hok
      obtain ⟨j, h2, h3⟩ := parse_cutT hok ht
      rw [h1, List.length_append, List.length_singleton]
      exact ⟨j, by omega, by unfold Hid; rw [hx]; exact h3⟩
  have HPm : Hid (∀ b : UInt8, b = 48 ∨ b = 49 → parseB (W8 (s ++ ⟨#[b]⟩)) = ⟨0, [], ((L.length + 2 : Nat) : Int), 4⟩) := fun b hb => by
    have hx : W8 (s ++ ⟨#[b]⟩) = formT V L ++ [b] := by rw [← hs]; simp [W8, str]
    rw [hx]; exact parse_more hok hb (by omega)
  rw [hLl] at HF HR1 HB1 e0 hl30 ⊢
  clear hR1 hB1 hb hL hs hm hok htl hsz h0
  have q0 := HF.out.c0
  have q1 := HF.out.c1
  go_wp2_with fail
  refine (form_is Hb.out hV1 hV2 HL.out HS.out hLl _ _ _ HR1.out (HE.out.below HB1.out)).mono ?_
  rintro e w2 ⟨rfl, hB2⟩
  have HF2 := Lib.hid (HF.out.below hB2 HF.out.lt)
  have HB2 := Lib.hid (HB1.out.trans (hB2.mono HB1.out.size))
  clear q0 q1 hB2 HF HR1 HB1
  have q0 := HF2.out.c0
  have q1 := HF2.out.c1
  have k1 : ((s.size : Int) < 3) = False := by simp; omega
  have k2 : ¬ ((s.size : Int) < 3) := by omega
  have KP := HPc.out
  have hj1 : ¬ ((j : Int) < 1 + (L.length : Int)) := by omega
  have hj2 : ¬ (1 + (L.length : Int) + 1 < (j : Int)) := by omega
  have hbb : ∀ i, i ≤ s.size → (s.extract 0 i).size ≤ 1048576 := fun i hi => by rw [ByteArray.size_extract]; omega
  go_wp2_with fail
  refine (parse_is (o := ⟨0, [], j, 4⟩) (l := 0) KP rfl _ (hbb _ (by omega)) (HE.out.below HB2.out)).mono ?_
  rintro e w3 ⟨a3, c3, rfl, hR3, hB3⟩
  have HB3 := Lib.hid ((HB2.out.trans (hB3.mono HB2.out.size)).alloc (Nat.le_trans HB2.out.size hB3.size) (.cells #[.int .i64 0, .slice a3 0 c3] 24))
  have HR3 := Lib.hid (hR3.alloc (.cells #[.int .i64 0, .slice a3 0 c3] 24))
  have HG3 := Lib.hid (Two.new w3 (.int .i64 0) (.slice a3 0 c3))
  have HF3 := Lib.hid ((HF2.out.below hB3 HF2.out.lt).alloc (.cells #[.int .i64 0, .slice a3 0 c3] 24))
  clear hB3 hR3 HB2 HF2 q0 q1
  have q0 := HG3.out.c0
  have q1 := HG3.out.c1
  go_wp2_with fail
  refine (equalFormula_is (n := 0) (k := 0) (xs := []) (ys := []) (i := 0) (j := 0) rfl rfl (eqFm_refl 0 []) _ _ _ _ _ (by unfold maxLen; omega) (fun z hz => by cases hz) HR3.out (.inl rfl)).mono ?_
  rintro e w4 ⟨rfl, hB4⟩
  have HB4 := Lib.hid (HB3.out.trans (hB4.mono HB3.out.size))
  clear hB4 HB3 HR3 HG3 HF3 q0 q1 KP HPc
  have hbig : ∀ b : UInt8, (s ++ ⟨#[b]⟩ : ByteArray).size ≤ 1048576 := fun b => by rw [ByteArray.size_append]; have h1 : (⟨#[b]⟩ : ByteArray).size = 1 := rfl; omega
  have m1 : ¬ (((L.length + 2 : Nat) : Int) < 1 + (L.length : Int)) := by omega
  have m2 : (((L.length + 2 : Nat) : Int) == 1 + (L.length : Int) + 1) = true := by rw [beq_iff_eq]; omega
  by_cases hev : (more.tmod 2 == 0) = true
  · have KM := HPm.out 49 (.inr rfl)
    go_wp2_with fail
    refine (parse_is (o := ⟨0, [], ((L.length + 2 : Nat) : Int), 4⟩) (l := 0) KM rfl _ (hbig _) (HE.out.below HB4.out)).mono ?_
    rintro e w5 ⟨a5, c5, rfl, hR5, hB5⟩
    have HB5 := Lib.hid ((HB4.out.trans (hB5.mono HB4.out.size)).alloc (Nat.le_trans HB4.out.size hB5.size) (.cells #[.int .i64 0, .slice a5 0 c5] 24))
    have HR5 := Lib.hid (hR5.alloc (.cells #[.int .i64 0, .slice a5 0 c5] 24))
    have HG5 := Lib.hid (Two.new w5 (.int .i64 0) (.slice a5 0 c5))
    clear hB5 hR5 HB4
    have q0 := HG5.out.c0
    have q1 := HG5.out.c1
    go_wp2_with fail
    refine (equalFormula_is (n := 0) (k := 0) (xs := []) (ys := []) (i := 0) (j := 0) rfl rfl (eqFm_refl 0 []) _ _ _ _ _ (by unfold maxLen; omega) (fun z hz => by cases hz) HR5.out (.inl rfl)).mono ?_
    rintro e w6 ⟨rfl, hB6⟩
    have HB6 := Lib.hid (HB5.out.trans (hB6.mono HB5.out.size))
    clear hB6 HB5 q0 q1
    go_wp2_with fail
    refine (known_any _ (HE.out.below HB6.out)).mono ?_
    rintro e w7 ⟨rfl, hB7⟩
    have HB7 := Lib.hid (HB6.out.trans (hB7.mono HB6.out.size))
    clear hB7
    go_wp2
    go_ret
    exact ⟨rfl, HB7.out⟩
  · have hev : (more.tmod 2 == 0) = false := by simpa using hev
    have KM := HPm.out 48 (.inl rfl)
    go_wp2_with fail
    refine (parse_is (o := ⟨0, [], ((L.length + 2 : Nat) : Int), 4⟩) (l := 0) KM rfl _ (hbig _) (HE.out.below HB4.out)).mono ?_
    rintro e w5 ⟨a5, c5, rfl, hR5, hB5⟩
    have HB5 := Lib.hid ((HB4.out.trans (hB5.mono HB4.out.size)).alloc (Nat.le_trans HB4.out.size hB5.size) (.cells #[.int .i64 0, .slice a5 0 c5] 24))
    have HR5 := Lib.hid (hR5.alloc (.cells #[.int .i64 0, .slice a5 0 c5] 24))
    have HG5 := Lib.hid (Two.new w5 (.int .i64 0) (.slice a5 0 c5))
    clear hB5 hR5 HB4
    have q0 := HG5.out.c0
    have q1 := HG5.out.c1
    go_wp2_with fail
    refine (equalFormula_is (n := 0) (k := 0) (xs := []) (ys := []) (i := 0) (j := 0) rfl rfl (eqFm_refl 0 []) _ _ _ _ _ (by unfold maxLen; omega) (fun z hz => by cases hz) HR5.out (.inl rfl)).mono ?_
    rintro e w6 ⟨rfl, hB6⟩
    have HB6 := Lib.hid (HB5.out.trans (hB6.mono HB5.out.size))
    clear hB6 HB5 q0 q1
    go_wp2_with fail
    refine (known_any _ (HE.out.below HB6.out)).mono ?_
    rintro e w7 ⟨rfl, hB7⟩
    have HB7 := Lib.hid (HB6.out.trans (hB7.mono HB6.out.size))
    clear hB7
    go_wp2
    go_ret
    exact ⟨rfl, HB7.out⟩
end Go.Proofs.YtkannkalbhmlcaaDoor
