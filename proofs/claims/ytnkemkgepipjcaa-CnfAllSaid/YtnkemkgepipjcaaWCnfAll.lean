/-
  CnfAll's walk.
-/
import Derived.Test.YtnkemkgepipjcaaCnfF
namespace Go.Proofs.Ytnkemkgepipjcaa
open Go.RowKit Go.Lib
open Go.RowKit (Below)

/-- What the statement asks of the number t at the clause number k. -/
def FirstAt (m : List Bool) (L : List (List Int)) (t : Int) : Prop := -1 ≤ t ∧ t < L.length ∧ ∀ (k : Nat) (z : List Int), L[k]? = some z → ((t = -1 ∨ (k : Int) < t) → z.any (holdsL m) = true) ∧ ((k : Int) = t → z.any (holdsL m) = false)
theorem firstAt (m : List Bool) (L : List (List Int)) : FirstAt m L (firstI m L) := by
  rcases firstI_spec m L with ⟨h, h1⟩ | ⟨t, h, h0, h1, h2⟩
  · rw [h]
    exact ⟨by omega, by omega, fun k z hz => ⟨fun _ => h1 k z hz, fun e => by omega⟩⟩
  · rw [h]
    refine ⟨by omega, by omega, fun k z hz => ⟨fun e => h1 k z (by omega) hz, fun e => ?_⟩⟩
    have : k = t := by omega
    subst this
    exact h2 z hz

set_option maxRecDepth 100000 in
set_option maxHeartbeats 4000000 in
theorem cnfAll_walk (w : World) (n : Int) (hn : (Lit.int .u8 n).wf = true) (a : Option Addr) (c : Nat) (zss : List (List Int)) (hR : RowsR .i8 w a zss) (hA : AllLen zss) (hm : zss.length ≤ maxLen) (hw : ∀ z ∈ zss, ∀ n ∈ z, (Lit.int .i8 n).wf = true)
    (bits : Int) (hb : (Lit.int .u16 bits).wf = true) :
    Calls Try.prog 7 #[.int .u8 n, .slice a zss.length c, .int .u16 bits] w fun e w' => e = .returned (.bool true) ∧ Below w.heap.size w w' := by
  obtain ⟨hn0, hn1⟩ := u8_range hn
  obtain ⟨hb0, hb1⟩ := u16_range hb
  obtain ⟨N, hN⟩ : ∃ N : Nat, 1 + n % 12 = (N : Int) := ⟨(1 + n % 12).toNat, by omega⟩
  have hN1 : 1 ≤ N := by omega
  have hN2 : N ≤ 12 := by omega
  have HF := Lib.hid (fit_any n N hn0 hn1 hN a c zss w hR hA hm hw)
  clear hN hR hA hm hw hn hb
  go_enter Try.func7, Try.ntmps7
  go_wp2_with fail
  refine HF.out.mono ?_
  rintro e w1 (⟨hf, rfl, hB1⟩ | ⟨hf, a1, c1, rfl, hR1, hB1⟩)
  · have HB1 := Lib.hid (hB1.alloc hB1.size (.cells #[.int .i64 0, .slice none 0 0] 24))
    clear hB1 hf
    go_wp2_with fail
    refine (known_any _).mono ?_
    rintro e w2 ⟨rfl, hB2⟩
    have HB2 := Lib.hid (HB1.out.trans (hB2.mono HB1.out.size))
    clear hB2
    go_wp2
    go_ret
    exact ⟨rfl, HB2.out⟩
  · have hz := (fitB_parts hf).1
    have HL := Lib.hid (fitL_len N zss)
    have HC := Lib.hid (fitL_check (V := N) (W := N) (by omega) (by omega) (by omega) (by omega) hf)
    have HA := Lib.hid (fitL_all (V := N) hf)
    have HR1 := Lib.hid (hR1.alloc (.cells #[.int .i64 N, .slice a1 zss.length c1] 24))
    have HB1 := Lib.hid (hB1.alloc hB1.size (.cells #[.int .i64 N, .slice a1 zss.length c1] 24))
    have HT := Lib.hid (Two.new w1 (.int .i64 N) (.slice a1 zss.length c1))
    generalize fitL N zss = L at HL HC HA HR1
    clear hB1 hR1 hf HF
    go_wp2_with fail
    refine (model_any N (by omega) bits _ hb0 hb1).mono ?_
    rintro e w2 ⟨m, gm, hml, rfl, hM, hB2⟩
    have HT2 := Lib.hid (HT.out.below hB2 (by simp))
    have hF := firstN_in (m := m) HC.out (by rw [hml])
    obtain ⟨t, ht⟩ : ∃ t, firstI m L = t := ⟨_, rfl⟩
    rw [ht] at hF
    have HF1 := Lib.hid hF.1
    have HF2 := Lib.hid hF.2
    have hS := firstAt m L
    rw [ht] at hS
    have ht1 := hS.1
    have ht2 : t < zss.length := by have := hS.2.1; rw [HL.out] at this; exact this
    have HS := Lib.hid hS.2.2
    have HML := Lib.hid hml
    have HM := Lib.hid hM.reads
    have HR2 := Lib.hid (HR1.out.below hB2)
    have HB2 := Lib.hid (HB1.out.trans (hB2.mono HB1.out.size))
    have hg1 : w1.heap.size < w2.heap.size := HT2.out.lt
    have c0 := HT2.out.c0
    have c1' := HT2.out.c1
    clear hF ht hS hml hM hB2 HR1 HB1 HT
    go_wp2_with fail
    refine (first_is HL.out HML.out HF1.out HF2.out _ _ _ _ _ (by unfold maxLen; omega) HA.out (by unfold maxLen; omega) HR2.out HM.out).mono ?_
    rintro e w3 ⟨rfl, hB3⟩
    have HT3 := Lib.hid (HT2.out.below hB3 hg1)
    have HM3 := Lib.hid (HM.out.below hB3)
    have HR3 := Lib.hid (HR2.out.below hB3)
    have HB3 := Lib.hid (HB2.out.trans (hB3.mono HB2.out.size))
    clear hB3 c0 c1' HM HR2 HB2 HT2
    have c0 := HT3.out.c0
    have c1' := HT3.out.c1
    go_wp2
    go_loop [12] (fun i => ∃ k : Nat, k ≤ zss.length ∧ i = .int .i64 k) (fun i => zss.length - (intOf i).toNat)
    case atStart => exact ⟨0, Nat.zero_le _, rfl⟩
    case round =>
      obtain ⟨k, hk, rfl⟩ := hrel
      by_cases hlt : k < zss.length
      · obtain ⟨bb, off, aj, cj, zs, rfl, hbs, HZ, hc, HK⟩ := HR3.out.at (j := k) (by rw [HL.out]; exact hlt)
        have hzl := HA.out.at HZ.out
        have hP := HS.out k zs HZ.out
        clear HR3 HA
        by_cases h1 : t = -1
        · have hv := hP.1 (.inl h1)
          have e1 : (t == -1) = true := by simp [h1]
          have ht3 : t ≤ -1 := by omega
          have e3 : decide ((k : Int) < t) = false := by simp; omega
          have e2 : ((k : Int) == t) = false := by simp; omega
          have HV := Lib.hid hv
          have hne := any_ne hv
          clear hP hv h1
          go_wp2_with fail
          refine (holds_is HML.out rfl HV.out _ aj _ cj _ (by unfold maxLen; omega) hzl HM3.out HK.out).mono ?_
          rintro e w4 ⟨rfl, rfl⟩
          go_wp2
          go_round
          case rel => exact ⟨k + 1, by omega, by go_num⟩
          case measure => simp [intOf]; omega
        have e1 : (t == -1) = false := by simp [h1]
        by_cases h2 : (k : Int) < t
        · have hv := hP.1 (.inr h2)
          have HV := Lib.hid hv
          have hne := any_ne hv
          have e2 : ((k : Int) == t) = false := by simp; omega
          clear hP hv h1
          go_wp2_with fail
          refine (holds_is HML.out rfl HV.out _ aj _ cj _ (by unfold maxLen; omega) hzl HM3.out HK.out).mono ?_
          rintro e w4 ⟨rfl, rfl⟩
          go_wp2
          go_round
          case rel => exact ⟨k + 1, by omega, by go_num⟩
          case measure => simp [intOf]; omega
        by_cases h3 : (k : Int) = t
        · have hv := hP.2 h3
          have HV := Lib.hid hv
          have e2 : ((k : Int) == t) = true := by simp [h3]
          have e3 : decide ((k : Int) < t) = false := by simp; omega
          clear hP hv h1 h3
          cases hl0 : ((zs.length : Int) == 0)
          all_goals
            go_wp2_with fail
            refine (holds_is HML.out rfl HV.out _ aj _ cj _ (by unfold maxLen; omega) hzl HM3.out HK.out).mono ?_
            rintro e w4 ⟨rfl, rfl⟩
            go_wp2
            go_round
            case rel => exact ⟨k + 1, by omega, by go_num⟩
            case measure => simp [intOf]; omega
        · have e2 : ((k : Int) == t) = false := by simp; omega
          have e3 : decide ((k : Int) < t) = false := by simp; omega
          clear hP h1 h3
          cases hr : zs.any (holdsL m)
          all_goals
            have HV := Lib.hid hr
            clear hr
            cases hl0 : ((zs.length : Int) == 0)
            all_goals
              go_wp2_with fail
              refine (holds_is HML.out rfl HV.out _ aj _ cj _ (by unfold maxLen; omega) hzl HM3.out HK.out).mono ?_
              rintro e w4 ⟨rfl, rfl⟩
              go_wp2
              go_round
              case rel => exact ⟨k + 1, by omega, by go_num⟩
              case measure => simp [intOf]; omega
      · go_wp2_with fail
        refine (known_any _).mono ?_
        rintro e w4 ⟨rfl, hB4⟩
        have HB4 := Lib.hid (HB3.out.trans (hB4.mono HB3.out.size))
        clear hB4
        go_wp2
        go_ret
        exact ⟨rfl, HB4.out⟩
end Go.Proofs.Ytnkemkgepipjcaa
