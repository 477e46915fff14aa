/-
  PropSound: what Units returns holds in every model.
-/
import Derived.Test.YtjpjhpokimdblaaPropU
import Derived.Deep.CutRange
import Derived.BigQuiet
namespace Go.Proofs.Ytjpjhpokimdblaa
open Go.RowKit Go.Lib
open Go.RowKit (Below)

set_option maxRecDepth 100000 in
set_option maxHeartbeats 8000000 in
theorem propSound_walk (w : World) (n : Int) (hn : (Lit.int .u8 n).wf = true) (a : Option Addr) (c : Nat) (zss : List (List Int)) (hR : RowsR .i8 w a zss) (hA : AllLen zss) (hm : zss.length ≤ maxLen) (hwf : ∀ z ∈ zss, ∀ x ∈ z, (Lit.int .i8 x).wf = true)
    (b : Option Addr) (d : Nat) (qs : List Int) (hQ : KI .i8 w b qs) (hqw : ∀ n ∈ qs, (Lit.int .i8 n).wf = true) (hqm : qs.length ≤ maxLen) (bits : Int) (hbits : (Lit.int .u16 bits).wf = true) :
    Calls Try.prog 8 #[.int .u8 n, .slice a zss.length c, .slice b qs.length d, .int .u16 bits] w fun e w' => e = .returned (.bool true) ∧ Below w.heap.size w w' := by
  obtain ⟨hn0, hn1⟩ := u8_range hn
  obtain ⟨hb0, hb1⟩ := u16_range hbits
  obtain ⟨V, hV⟩ : ∃ V : Nat, 1 + n % 12 = (V : Int) := ⟨(1 + n % 12).toNat, by omega⟩
  have hV1 : 1 ≤ V := by omega
  have hV2 : V ≤ 12 := by omega
  have HF := Lib.hid (fit_any n V hn0 hn1 hV a c zss w hR hA hm hwf)
  have HQ := Lib.hid hQ
  have HQW := Lib.hid hqw
  have HQM := Lib.hid hqm
  clear hV hR hA hm hwf hn hn0 hn1 hQ hqw hqm hbits
  go_enter Try.func8, Try.ntmps8
  go_wp2_with fail
  refine HF.out.mono ?_
  rintro e w1 (⟨hf, rfl, hB1⟩ | ⟨hf, a1, c1, rfl, _, _, hR1, hB1⟩)
  · have HB1 := Lib.hid (hB1.alloc hB1.size (.cells #[.int .i64 0, .slice none 0 0] 26))
    clear hB1 hf
    go_wp2_with fail
    refine (knownP_any _).mono ?_
    rintro e w2 ⟨rfl, hB2⟩
    have HB2 := Lib.hid (HB1.out.trans (hB2.mono HB1.out.size))
    clear hB2
    go_wp2
    go_ret
    exact ⟨rfl, HB2.out⟩
  · have HFB := Lib.hid hf
    have HR1 := Lib.hid (hR1.alloc (.cells #[.int .i64 V, .slice a1 zss.length c1] 26))
    have HB1 := Lib.hid (hB1.alloc hB1.size (.cells #[.int .i64 V, .slice a1 zss.length c1] 26))
    have HT := Lib.hid (Two.new w1 (.int .i64 V) (.slice a1 zss.length c1))
    have HQ1 := Lib.hid ((KI.below HQ.out (by exact hB1)).alloc (.cells #[.int .i64 V, .slice a1 zss.length c1] 26))
    clear hB1 hR1 hf HF
    go_wp2_with fail
    refine (assumed_any V (by omega) (by omega) _ b d qs _ HQW.out HQM.out HQ1.out).mono ?_
    rintro e w2 ⟨v2, rfl, hO, hB2⟩
    obtain ⟨va, vc, rfl, hVI⟩ := hO.reads
    have HXO : Hid (∀ x ∈ fitZ (V : Int) (qs.take 12), -(V : Int) ≤ x ∧ x ≤ V ∧ x ≠ 0) := fitZ_range V (by omega) _
    have hxl : (fitZ (V : Int) (qs.take 12)).length ≤ 12 := by
      have h1 := fitZ_le V (qs.take 12)
      have h2 : (qs.take 12).length ≤ 12 := List.length_take_le _ _
      omega
    obtain ⟨xs, hxs⟩ : ∃ xs, fitZ (V : Int) (qs.take 12) = xs := ⟨_, rfl⟩
    rw [hxs] at HXO hxl hVI
    rw [hxs]
    have HT2 := Lib.hid (HT.out.below hB2 (by simp))
    have HR2 := Lib.hid (HR1.out.below hB2)
    have HB2 := Lib.hid (HB1.out.trans (hB2.mono HB1.out.size))
    have HX2 := Lib.hid hVI
    have hg1 : w1.heap.size < w2.heap.size := HT2.out.lt
    have c0 := HT2.out.c0
    have c1' := HT2.out.c1
    have hmx : maxLen = 9223372036854775807 := rfl
    have HXL : Hid (xs.length ≤ maxLen) := by unfold Hid; omega
    clear hxs hVI hO hB2 HB1 HR1 HT HQ HQ1 HQM HQW hmx
    go_wp2_with fail
    refine (unitsOne hV1 hV2 HFB.out HXO.out HXL.out HR2.out HX2.out (fitL_len _ _) rfl).mono ?_
    rintro e w3 ⟨hB3, ua, uc, u, ff, rfl, hUI, hul, hrng, hSO, hFU⟩
    have HL := Lib.hid (fitL_len (V : Int) zss)
    have HC := Lib.hid (fitL_check (V := V) (W := V) (by omega) (by omega) (by omega) (by omega) HFB.out)
    have HA := Lib.hid (fitL_all (V := V) HFB.out)
    have hzl : zss.length ≤ 30 := (fitB_parts HFB.out).1
    have HB3 := Lib.hid (HB2.out.trans (hB3.mono HB2.out.size))
    have HT3 := Lib.hid (HT2.out.below hB3 hg1)
    have HR3 := Lib.hid (HR2.out.below hB3)
    have HX3 := Lib.hid (HX2.out.below hB3)
    have HU3 := Lib.hid hUI
    have HRG := Lib.hid hrng
    have HSO := Lib.hid hSO
    have HFU := Lib.hid hFU
    have hul12 : u.length ≤ 12 := by omega
    have hg3 : w1.heap.size < w3.heap.size := HT3.out.lt
    generalize fitL (V : Int) zss = L at HL HC HA HR3 HSO HFU
    clear hB3 hUI hrng hSO hFU c0 c1' HB2 HT2 HR2 HX2 hg1 HFB
    have hwV : IntKind.i64.wrap (-(V : Int)) = -(V : Int) := IntWalk.i64_in _ (by omega)
    go_wp2
    -- the range of what is returned
    go_loopw [15] (fun i wr => ∃ k : Nat, i = .int .i64 k ∧ k ≤ u.length ∧ Hid (QuietTo w3 wr)) (fun i _ => u.length - (intOf i).toNat)
    case atStart => exact ⟨0, rfl, Nat.zero_le _, QuietTo.rfl'⟩
    case round =>
      obtain ⟨k, rfl, hk, HQT⟩ := hrel
      have hU := HU3.out.below (quietBelow HQT.out w3.heap.size)
      have HT4 := Lib.hid (HT3.out.below (quietBelow HQT.out w3.heap.size) hg3)
      have c0 := HT4.out.c0
      by_cases hlt : k < u.length
      · obtain ⟨bx, offx, x, rfl, hx, hcx⟩ := hU.at hlt
        obtain ⟨hx1, hx2, hx0⟩ := HRG.out x (List.mem_of_getElem? hx.out)
        have e1 : (x == 0) = false := by simp [hx0]
        have e2 : decide ((V : Int) < x) = false := decide_eq_false (by omega)
        have e3 : decide (x < -(V : Int)) = false := decide_eq_false (by omega)
        have HQ2 : Hid (∀ q, QuietTo w3 (wr.drewN q)) := fun q => HQT.out.on q
        clear hU hx HQT
        go_wp2
        go_quiet (fail)
        go_wp2
        go_roundw
        case rel => exact ⟨k + 1, by go_num, by omega, HQ2.out _⟩
        case measure => simp [intOf]; omega
      · have HU4 := Lib.hid hU
        have HX4 := Lib.hid (HX3.out.below (quietBelow HQT.out w3.heap.size))
        have HR4 := Lib.hid (HR3.out.quiet HQT.out)
        have HB4 := Lib.hid (HB3.out.trans (quietBelow HQT.out w.heap.size))
        have hg4 : w1.heap.size < wr.heap.size := HT4.out.lt
        obtain ⟨w4, rfl⟩ : ∃ w4 : World, w4 = wr := ⟨_, rfl⟩
        clear hU HQT HU3 HX3 HR3 HB3 HT3 hg3
        go_wp2_with fail
        refine (model_any V (by omega) bits _ hb0 hb1).mono ?_
        rintro e w5 ⟨m, gm, hml, rfl, hM, hB5⟩
        have HM5 := Lib.hid hM
        have HML := Lib.hid hml
        have HB5 := Lib.hid hB5
        have HT5 := Lib.hid (HT4.out.below hB5 hg4)
        clear hM hml hB5 c0
        have c0 := HT5.out.c0
        have c1 := HT5.out.c1
        by_cases hfull : ff = false ∧ u.length = V
        · obtain ⟨rfl, hulV⟩ := hfull
          have hulI : ((u.length : Int) == (V : Int)) = true := by rw [hulV]; simp
          have HUV := Lib.hid hulV
          clear hulV
          go_wp2
          clear c0 c1
          have hg5 : w1.heap.size < w5.heap.size := HT5.out.lt
          -- the model of all
          go_loopw [17] (fun i wr => ∃ (k : Nat) (bs : List Bool), i = .int .i64 k ∧ k ≤ u.length ∧ Hid (bs.length = V) ∧ Hid (MRow wr w4.heap.size gm bs) ∧ Hid (Below w4.heap.size w4 wr) ∧ Hid (∀ (j : Nat) (x : Int), j < k → u[j]? = some x → bs.getD j false = decide (0 < x))) (fun i _ => u.length - (intOf i).toNat)
          case atStart => exact ⟨0, m, rfl, Nat.zero_le _, HML, HM5, HB5, fun j x hj _ => absurd hj (Nat.not_lt_zero _)⟩
          case round =>
            obtain ⟨j, bs, rfl, hj, HBL, HMR, HB6, HTD⟩ := hrel
            have hT6 := HT4.out.below HB6.out hg4
            have hlen : V = bs.length := HBL.out.symm
            by_cases hlj : j < u.length
            · obtain ⟨bx, offx, x, rfl, hx, hcx⟩ := (HU4.out.below HB6.out).at hlj
              have hfr : wr.frozen? ⟨gm, j, none⟩ = false := World.ownsRow.frozenAt HMR.out j
              have hjV : (j : Int) < (V : Int) := by have := HUV.out; omega
              have hjVn : j < V := by have := HUV.out; omega
              have hgB : w4.heap.size ≤ gm := (World.ownsRow.lt HMR.out gm rfl).1
              have hc0 := MRow.cell HMR.out (j := j) (by rw [HBL.out]; exact hjVn)
              obtain ⟨b0, hb0'⟩ : ∃ b0, bs.getD j false = b0 := ⟨_, rfl⟩
              rw [hb0'] at hc0
              have HP := Lib.hid (fun b => HMR.out.put j b)
              have HQ := Lib.hid (fun b => HB6.out.setCell (p := ⟨gm, j, none⟩) hgB (.bool b))
              have HLn : Hid (∀ b, (bs.set j b).length = V) := fun b => by rw [List.length_set]; exact HBL.out
              have HTN : Hid (∀ (i : Nat) (y : Int), i < j + 1 → u[i]? = some y → (bs.set j (decide (0 < x))).getD i false = decide (0 < y)) := fun i y hi hy => by
                rw [List.getD_eq_getElem?_getD]
                by_cases e : i = j
                · subst e
                  rw [hx.out] at hy; cases hy
                  rw [List.getElem?_set_self (by rw [HBL.out]; exact hjVn)]; rfl
                · rw [List.getElem?_set_ne (fun h => e h.symm), ← List.getD_eq_getElem?_getD]
                  exact HTD.out i y (by omega) hy
              clear hlen hT6 HBL HMR HB6 HTD hb0' hx hgB
              go_wp2
              go_roundw
              case rel => exact ⟨j + 1, _, by go_num, by omega, HLn.out _, HP.out _, HQ.out _, HTN⟩
              case measure => simp [intOf]; omega
            · have hj' : j = u.length := by omega
              have hfi := HFU.out rfl HUV.out bs HBL.out (fun i x hi => HTD.out i x (by rw [hj']; exact (List.getElem?_eq_some_iff.1 hi).1) hi)
              have hF := firstN_in (m := bs) HC.out (by rw [HBL.out])
              rw [hfi] at hF
              have HF1 := Lib.hid hF.1
              have HF2 := Lib.hid hF.2
              have HT6 := Lib.hid hT6
              have c0 := HT6.out.c0
              have c1 := HT6.out.c1
              have HR6 := Lib.hid (HR4.out.below HB6.out)
              have HM6 := Lib.hid HMR.out.reads
              have HB7 := Lib.hid (HB4.out.trans (HB6.out.mono HB4.out.size))
              clear hlen hT6 hj' hfi hF HMR HTD
              go_wp2_with fail
              refine (first_is HL.out HBL.out HF1.out HF2.out _ _ _ _ _ (by unfold maxLen; omega) HA.out (by unfold maxLen; omega) HR6.out HM6.out).mono ?_
              rintro e w7 ⟨rfl, hB8⟩
              have HB8 := Lib.hid (HB7.out.trans (hB8.mono HB7.out.size))
              clear hB8 c0 c1
              go_wp2_with fail
              refine (knownP_any _).mono ?_
              rintro e w8 ⟨rfl, hB9⟩
              have HB9 := Lib.hid (HB8.out.trans (hB9.mono HB8.out.size))
              clear hB9
              go_wp2
              go_ret
              exact ⟨rfl, HB9.out⟩
        · have hcase : ff = true ∨ (ff = false ∧ ((u.length : Int) == (V : Int)) = false) := by
            cases ff
            · right; refine ⟨rfl, ?_⟩
              rw [beq_eq_false_iff_ne]; intro h; exact hfull ⟨rfl, by omega⟩
            · left; rfl
          have HR5 := Lib.hid (HR4.out.below HB5.out)
          have HU5 := Lib.hid (HU4.out.below HB5.out)
          have HX5 := Lib.hid (HX4.out.below HB5.out)
          have HMB := Lib.hid HM5.out.reads
          have HB6 := Lib.hid (HB4.out.trans (HB5.out.mono HB4.out.size))
          have hF := firstN_in (m := m) HC.out (by rw [HML.out])
          obtain ⟨t, ht⟩ : ∃ t, firstI m L = t := ⟨_, rfl⟩
          rw [ht] at hF
          have HF1 := Lib.hid hF.1
          have HF2 := Lib.hid hF.2
          have HTI := Lib.hid ht
          have hxl' : xs.length ≤ 12 := hxl
          clear hfull HFU hF ht HT4 HU4 HX4 HR4 HB4 HB5 hg4
          rcases hcase with rfl | ⟨rfl, hne⟩
          all_goals
            go_wp2_with fail
            refine (first_is HL.out HML.out HF1.out HF2.out _ _ _ _ _ (by unfold maxLen; omega) HA.out (by unfold maxLen; omega) HR5.out HMB.out).mono ?_
            rintro e w6 ⟨rfl, hB6⟩
            have HB7 := Lib.hid (HB6.out.trans (hB6.mono HB6.out.size))
            have HU6 := Lib.hid (HU5.out.below hB6)
            have HX6 := Lib.hid (HX5.out.below hB6)
            have HM6 := Lib.hid (MRow.below HM5.out hB6)
            clear hB6 HR5 HU5 HX5 HMB HM5 HB6 HF1 HF2 c0 c1
            by_cases ht1 : t = -1
            · subst ht1
              clear HT5
              go_wp2
              go_loopw [22] (fun i wr => ∃ k : Nat, i = .int .i64 k ∧ k ≤ xs.length ∧ Hid (QuietTo w6 wr) ∧ Hid (∀ (j : Nat) (x : Int), j < k → xs[j]? = some x → holdsL m x = true)) (fun i _ => xs.length - (intOf i).toNat)
              case atStart => exact ⟨0, rfl, Nat.zero_le _, QuietTo.rfl', fun j x hj _ => absurd hj (Nat.not_lt_zero _)⟩
              case round =>
                obtain ⟨k3, rfl, hk3, HQT, HHD⟩ := hrel
                have hX := HX6.out.below (quietBelow HQT.out w6.heap.size)
                have hM7 := MRow.below HM6.out (quietBelow HQT.out w6.heap.size)
                by_cases hlt3 : k3 < xs.length
                · obtain ⟨bx, offx, x, rfl, hx, hcx⟩ := hX.at hlt3
                  obtain ⟨hx1, hx2, hx0⟩ := HXO.out x (List.mem_of_getElem? hx.out)
                  obtain ⟨J, hJ⟩ : ∃ J, x.natAbs - 1 = J := ⟨_, rfl⟩
                  have hJV : (J : Int) < (V : Int) := by omega
                  have hJn : J < V := by omega
                  have hh := holds_small (m := m) (x := x) (by omega) (by omega) hx0 (by rw [HML.out]; omega)
                  rw [hJ] at hh
                  have hcm := MRow.cell hM7 (j := J) (by rw [HML.out]; exact hJn)
                  obtain ⟨bb, hbb⟩ : ∃ bb, m.getD J false = bb := ⟨_, rfl⟩
                  rw [hbb] at hh hcm
                  have HQ2 : Hid (∀ q, QuietTo w6 (wr.drewN q)) := fun q => HQT.out.on q
                  have HH' : Hid (holdsL m x = true → ∀ (j : Nat) (y : Int), j < k3 + 1 → xs[j]? = some y → holdsL m y = true) := fun h j y hj hy => by
                    by_cases e : j = k3
                    · subst e; rw [hx.out] at hy; cases hy; exact h
                    · exact HHD.out j y (by omega) hy
                  have HB8 : Hid (∀ q, Below w.heap.size w (wr.drewN q)) := fun q => HB7.out.trans (quietBelow (HQ2.out q) w.heap.size)
                  have hwx : IntKind.i64.wrap (-x) = -x := IntWalk.i64_in _ (by omega)
                  clear hX hM7 hx hbb HQT HHD
                  by_cases hp : 0 < x
                  · have hmax : (if x < -x then -x else x) = x := if_neg (by omega)
                    have hw : IntKind.i64.wrap (x - 1) = (J : Int) := by rw [IntWalk.i64_in _ (by omega)]; omega
                    rw [decide_eq_true hp] at hh
                    clear hJ hx0 hx1 hx2
                    cases bb
                    · clear hh HH'
                      go_wp2
                      go_quiet (fail)
                      go_wp2_with fail
                      refine (knownP_any _).mono ?_
                      rintro e w8 ⟨rfl, hB9⟩
                      have HB9 := Lib.hid ((HB8.out _).trans (hB9.mono (HB8.out _).size))
                      clear hB9
                      go_wp2
                      go_ret
                      exact ⟨rfl, HB9.out⟩
                    · have HHT : Hid (holdsL m x = true) := by rw [hh]; rfl
                      clear hh
                      go_wp2
                      go_quiet (fail)
                      go_wp2
                      go_roundw
                      case rel => exact ⟨k3 + 1, by go_num, by omega, HQ2.out _, HH'.out HHT.out⟩
                      case measure => simp [intOf]; omega
                  · have hdp : decide (0 < x) = false := decide_eq_false hp
                    have hmax : (if x < -x then -x else x) = -x := if_pos (by omega)
                    have hw : IntKind.i64.wrap (-x - 1) = (J : Int) := by rw [IntWalk.i64_in _ (by omega)]; omega
                    rw [decide_eq_false hp] at hh
                    clear hJ hx0 hx1 hx2
                    cases bb
                    · have HHT : Hid (holdsL m x = true) := by rw [hh]; rfl
                      clear hh
                      go_wp2
                      go_quiet (fail)
                      go_wp2
                      go_roundw
                      case rel => exact ⟨k3 + 1, by go_num, by omega, HQ2.out _, HH'.out HHT.out⟩
                      case measure => simp [intOf]; omega
                    · clear hh HH'
                      go_wp2
                      go_quiet (fail)
                      go_wp2_with fail
                      refine (knownP_any _).mono ?_
                      rintro e w8 ⟨rfl, hB9⟩
                      have HB9 := Lib.hid ((HB8.out _).trans (hB9.mono (HB8.out _).size))
                      clear hB9
                      go_wp2
                      go_ret
                      exact ⟨rfl, HB9.out⟩
                · have hall : ∀ x ∈ xs, holdsL m x = true := fun x hx => by
                    obtain ⟨j, hj⟩ := List.mem_iff_getElem?.1 hx
                    exact HHD.out j x (by have := (List.getElem?_eq_some_iff.1 hj).1; omega) hj
                  obtain ⟨hff, hus⟩ := HSO.out m HML.out HTI.out hall
                  cases hff
                  all_goals
                    have HUS := Lib.hid hus
                    have HU8 := Lib.hid (HU6.out.below (quietBelow HQT.out w6.heap.size))
                    have HM8 := Lib.hid hM7
                    have HB8 := Lib.hid (HB7.out.trans (quietBelow HQT.out w.heap.size))
                    obtain ⟨w8, rfl⟩ : ∃ w8 : World, w8 = wr := ⟨_, rfl⟩
                    clear hX hM7 HHD hall hus HSO HQT HX6 HU6 HM6
                    go_wp2
                    go_loopw [23] (fun i wr => ∃ k : Nat, i = .int .i64 k ∧ k ≤ u.length ∧ Hid (QuietTo w8 wr)) (fun i _ => u.length - (intOf i).toNat)
                    case atStart => exact ⟨0, rfl, Nat.zero_le _, QuietTo.rfl'⟩
                    case round =>
                      obtain ⟨k4, rfl, hk4, HQT⟩ := hrel
                      have hX := HU8.out.below (quietBelow HQT.out w8.heap.size)
                      have hM7 := MRow.below HM8.out (quietBelow HQT.out w8.heap.size)
                      by_cases hlt4 : k4 < u.length
                      · obtain ⟨bx, offx, x, rfl, hx, hcx⟩ := hX.at hlt4
                        have hxm := List.mem_of_getElem? hx.out
                        obtain ⟨hx1, hx2, hx0⟩ := HRG.out x hxm
                        obtain ⟨J, hJ⟩ : ∃ J, x.natAbs - 1 = J := ⟨_, rfl⟩
                        have hJV : (J : Int) < (V : Int) := by omega
                        have hJn : J < V := by omega
                        have hh := holds_small (m := m) (x := x) (by omega) (by omega) hx0 (by rw [HML.out]; omega)
                        rw [hJ, HUS.out x hxm] at hh
                        have hcm := MRow.cell hM7 (j := J) (by rw [HML.out]; exact hJn)
                        obtain ⟨bb, hbb⟩ : ∃ bb, m.getD J false = bb := ⟨_, rfl⟩
                        rw [hbb] at hh hcm
                        have HQ2 : Hid (∀ q, QuietTo w8 (wr.drewN q)) := fun q => HQT.out.on q
                        have hwx : IntKind.i64.wrap (-x) = -x := IntWalk.i64_in _ (by omega)
                        clear hX hM7 hx hbb HQT hxm
                        by_cases hp : 0 < x
                        · have hmax : (if x < -x then -x else x) = x := if_neg (by omega)
                          have hw : IntKind.i64.wrap (x - 1) = (J : Int) := by rw [IntWalk.i64_in _ (by omega)]; omega
                          rw [decide_eq_true hp] at hh
                          clear hJ hx0 hx1 hx2
                          cases bb
                          · exact absurd hh (by decide)
                          · clear hh
                            go_wp2
                            go_quiet (fail)
                            go_wp2
                            go_roundw
                            case rel => exact ⟨k4 + 1, by go_num, by omega, HQ2.out _⟩
                            case measure => simp [intOf]; omega
                        · have hdp : decide (0 < x) = false := decide_eq_false hp
                          have hmax : (if x < -x then -x else x) = -x := if_pos (by omega)
                          have hw : IntKind.i64.wrap (-x - 1) = (J : Int) := by rw [IntWalk.i64_in _ (by omega)]; omega
                          rw [decide_eq_false hp] at hh
                          clear hJ hx0 hx1 hx2
                          cases bb
                          · clear hh
                            go_wp2
                            go_quiet (fail)
                            go_wp2
                            go_roundw
                            case rel => exact ⟨k4 + 1, by go_num, by omega, HQ2.out _⟩
                            case measure => simp [intOf]; omega
                          · exact absurd hh (by decide)
                      · have HB9 := Lib.hid (HB8.out.trans (quietBelow HQT.out w.heap.size))
                        clear hX hM7 HQT
                        go_wp2_with fail
                        refine (knownP_any _).mono ?_
                        rintro e w8 ⟨rfl, hB9⟩
                        have HB10 := Lib.hid ((HB9.out).trans (hB9.mono (HB9.out).size))
                        clear hB9
                        go_wp2
                        go_ret
                        exact ⟨rfl, HB10.out⟩
            · have e1 : (t == -1) = false := by simp [ht1]
              go_wp2_with fail
              refine (knownP_any _).mono ?_
              rintro e w8 ⟨rfl, hB9⟩
              have HB9 := Lib.hid ((HB7.out).trans (hB9.mono (HB7.out).size))
              clear hB9
              go_wp2
              go_ret
              exact ⟨rfl, HB9.out⟩
end Go.Proofs.Ytjpjhpokimdblaa
