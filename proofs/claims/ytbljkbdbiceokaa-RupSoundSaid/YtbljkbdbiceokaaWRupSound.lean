/-
  RupSound: an implied clause holds in every model; a formula with a proof has none.
-/
import Derived.Test.YtbljkbdbiceokaaRupS
import Derived.Deep.RegionHeld3
import Derived.Deep.DrawnRows
namespace Go.Proofs.Ytbljkbdbiceokaa
open Go.RowKit Go.Lib
open Go.RowKit (Below)

set_option maxRecDepth 100000 in
set_option maxHeartbeats 8000000 in
theorem rupSound_walk (w : World) (n : Int) (hn : (Lit.int .u8 n).wf = true) (a : Option Addr) (c : Nat) (zss : List (List Int)) (hR : RowsR .i8 w a zss) (hA : AllLen zss) (hm : zss.length ≤ maxLen) (hwf : ∀ z ∈ zss, ∀ x ∈ z, (Lit.int .i8 x).wf = true)
    (b : Option Addr) (d : Nat) (pss : List (List Int)) (hQ : RowsR .i8 w b pss) (hQA : AllLen pss) (hqm : pss.length ≤ maxLen) (hqw : ∀ z ∈ pss, ∀ x ∈ z, (Lit.int .i8 x).wf = true) (bits : Int) (hbits : (Lit.int .u16 bits).wf = true) :
    Calls Try.prog 7 #[.int .u8 n, .slice a zss.length c, .slice b pss.length d, .int .u16 bits] w fun e w' => e = .returned (.bool true) ∧ Below w.heap.size w w' := by
  obtain ⟨hn0, hn1⟩ := u8_range hn
  obtain ⟨hb0, hb1⟩ := u16_range hbits
  obtain ⟨V, hV⟩ : ∃ V : Nat, 1 + n % 12 = (V : Int) := ⟨(1 + n % 12).toNat, by omega⟩
  have hV1 : 1 ≤ V := by omega
  have hV2 : V ≤ 12 := by omega
  have HF := Lib.hid (fit_any n V hn0 hn1 hV a c zss w hR hA hm hwf)
  have HCL : Hid (∀ fv W, Below w.heap.size w W → Calls Try.prog 23 #[.agg #[.int .i64 V, fv], .slice b pss.length d] W fun e w' => Below W.heap.size W w' ∧
      ((fitB pss = false ∧ e = .returned (.tuple #[.slice none 0 0, .bool false])) ∨ (fitB pss = true ∧ ∃ pa pc, e = .returned (.tuple #[.slice pa pss.length pc, .bool true]) ∧ pss.length ≤ pc ∧ RowsR .i64 w' pa (fitL V pss)))) :=
    fun fv W hB => clauses_any V hV1 hV2 fv b d pss W (hQ.below hB) hQA hqm hqw
  clear hV hR hA hm hwf hn hn0 hn1 hQ hQA hqm hqw hbits
  go_enter Try.func7, Try.ntmps7
  go_wp2_with fail
  refine HF.out.mono ?_
  rintro e w1 (⟨hf, rfl, hB1⟩ | ⟨hf, a1, c1, rfl, _, _, hR1, hB1⟩)
  · have HB1 := Lib.hid (hB1.alloc hB1.size (.cells #[.int .i64 0, .slice none 0 0] 26))
    clear hB1 hf
    go_wp2_with fail
    refine (knownR_any _).mono ?_
    rintro e w2 ⟨rfl, hB2⟩
    have HB2 := Lib.hid (HB1.out.trans (hB2.mono HB1.out.size))
    clear hB2
    go_wp2
    go_ret
    exact ⟨rfl, HB2.out⟩
  · have HL := Lib.hid (fit_ok hV1 hV2 hf)
    have HLl := Lib.hid (fitL_len (V : Int) zss)
    have hzl : zss.length ≤ 30 := (fitB_parts hf).1
    have HR1 := Lib.hid (hR1.alloc (.cells #[.int .i64 V, .slice a1 zss.length c1] 26))
    have HB1 := Lib.hid (hB1.alloc hB1.size (.cells #[.int .i64 V, .slice a1 zss.length c1] 26))
    have HT := Lib.hid (Two.new w1 (.int .i64 V) (.slice a1 zss.length c1))
    generalize fitL (V : Int) zss = L at HL HLl HR1
    clear hB1 hR1 hf HF
    go_wp2_with fail
    refine (HCL.out _ _ HB1.out).mono ?_
    rintro e w2 ⟨hB2, (⟨hf, rfl⟩ | ⟨hf, pa, pc, rfl, hpc, hQ2⟩)⟩
    · have HB2 := Lib.hid (HB1.out.trans (hB2.mono HB1.out.size))
      clear hB2 hf
      go_wp2_with fail
      refine (knownR_any _).mono ?_
      rintro e w3 ⟨rfl, hB3⟩
      have HB3 := Lib.hid (HB2.out.trans (hB3.mono HB2.out.size))
      clear hB3
      go_wp2
      go_ret
      exact ⟨rfl, HB3.out⟩
    have HP := Lib.hid (fit_ok hV1 hV2 hf)
    have HPl := Lib.hid (fitL_len (V : Int) pss)
    have hpl : pss.length ≤ 30 := (fitB_parts hf).1
    have HQ2 := Lib.hid hQ2
    have HPC := Lib.hid hpc
    have HT2 := Lib.hid (HT.out.below hB2 (by simp))
    have HR2 := Lib.hid (HR1.out.below hB2)
    have HB2 := Lib.hid (HB1.out.trans (hB2.mono HB1.out.size))
    have hg2 : w1.heap.size < w2.heap.size := HT2.out.lt
    generalize fitL (V : Int) pss = P at HP HPl HQ2 hQ2
    have c0 := HT2.out.c0
    have c1' := HT2.out.c1
    clear hB2 hf hQ2 hpc HB1 HR1 HT HCL
    go_wp2_with fail
    refine (model_any V (by omega) bits _ hb0 hb1).mono ?_
    rintro e w3 ⟨m, gm, hml, rfl, hM, hB3⟩
    have HT3 := Lib.hid (HT2.out.below hB3 hg2)
    have HR3 := Lib.hid (HR2.out.below hB3)
    have HQ3 := Lib.hid (HQ2.out.below hB3)
    have HB3 := Lib.hid (HB2.out.trans (hB3.mono HB2.out.size))
    have HM3 := Lib.hid hM
    have HML := Lib.hid hml
    have hg3 : w1.heap.size < w3.heap.size := HT3.out.lt
    have hF := firstN_in (m := m) (HL.out.check hV2) (by rw [hml])
    obtain ⟨t, ht⟩ : ∃ t, firstI m L = t := ⟨_, rfl⟩
    rw [ht] at hF
    have HF1 := Lib.hid hF.1
    have HF2 := Lib.hid hF.2
    have HTI := Lib.hid ht
    clear hB3 hM hml hF ht HB2 HQ2 HR2 HT2 c0 c1' hg2
    have c0 := HT3.out.c0
    have c1' := HT3.out.c1
    go_wp2_with fail
    refine (first_is HLl.out HML.out HF1.out HF2.out _ _ _ _ _ (by unfold maxLen; omega) HL.out.all (by unfold maxLen; omega) HR3.out HM3.out.reads).mono ?_
    rintro e w4 ⟨rfl, hB4⟩
    have HT4 := Lib.hid (HT3.out.below hB4 hg3)
    have HR4 := Lib.hid (HR3.out.below hB4)
    have HQ4 := Lib.hid (HQ3.out.below hB4)
    have HM4 := Lib.hid (HM3.out.below hB4)
    have HB4 := Lib.hid (HB3.out.trans (hB4.mono HB3.out.size))
    have hg4 : w1.heap.size < w4.heap.size := HT4.out.lt
    clear hB4 HB3 HQ3 HR3 HT3 HM3 c0 c1' hg3
    have c0 := HT4.out.c0
    have c1' := HT4.out.c1
    go_wp2_with fail
    refine (checkOf' hV2 HL.out HP.out HR4.out HQ4.out (by rw [HPl.out]; exact HPC.out) HLl.out HPl.out).mono ?_
    rintro e w5 ⟨hB5, v, rfl, hv⟩
    have HT5 := Lib.hid (HT4.out.below hB5 hg4)
    have HR5 := Lib.hid (HR4.out.below hB5)
    have HQ5 := Lib.hid (HQ4.out.below hB5)
    have HM5 := Lib.hid (HM4.out.below hB5)
    have HB5 := Lib.hid (HB4.out.trans (hB5.mono HB4.out.size))
    have hg5 : w1.heap.size < w5.heap.size := HT5.out.lt
    have HV := Lib.hid hv
    have e1 : decide (v < -1) = false := by
      rcases chk_range hv with rfl | ⟨k, rfl, _⟩
      · rfl
      · exact decide_eq_false (by omega)
    have e2 : decide ((pss.length : Int) < v) = false := by
      rcases chk_range hv with rfl | ⟨k, rfl, hk⟩
      · exact decide_eq_false (by omega)
      · exact decide_eq_false (by have := HPl.out; omega)
    clear hB5 hv HB4 HQ4 HR4 HT4 HM4 c0 c1' hg4
    by_cases h1 : t = -1
    · subst h1
      have HH := Lib.hid (first_all.1 HTI.out)
      obtain ⟨k, rfl, hk, hG⟩ := chk_model hV2 HML.out HL.out.2.2 HP.out.2.2 HH.out HV.out
      have HG := Lib.hid hG
      have e3 : ((k : Int) == -1) = false := by rw [beq_eq_false_iff_ne]; omega
      have HIM : Hid (∀ z ∈ P, Fails L (negs z) → z.any (holdsL m) = true) := fun z hz hf => imp_model hV2 HML.out HL.out.2.2 (HP.out.2.2 z hz) HH.out hf
      have hk' : k ≤ pss.length := by have := HPl.out; omega
      have e4 : decide (pss.length < k) = false := decide_eq_false (by omega)
      clear hG hk HF1 HF2 HTI HV HH e2
      go_wp2
      clear e1 e3 e4
      go_loopw [17] (fun i wr => ∃ j : Nat, i = .int .i64 j ∧ j ≤ k ∧ wr = w5) (fun i _ => k - (intOf i).toNat)
      case atStart => exact ⟨0, rfl, Nat.zero_le _, rfl⟩
      case round =>
        obtain ⟨j, rfl, hj, rfl⟩ := hrel
        by_cases hlt : j < k
        · have hlt' : j < pss.length := by omega
          obtain ⟨bb, off, aj, cj, z, rfl, hbs, HZ, hc, HK⟩ := HQ5.out.at (j := j) (by rw [HPl.out]; omega)
          have hzl' : z.length ≤ maxLen := HP.out.all.at HZ.out
          have HA' : Hid (z.any (holdsL m) = true) := HG.out j z hlt HZ.out
          go_wp2_with fail
          refine (holds_is HML.out rfl HA'.out _ aj _ cj _ (by unfold maxLen; omega) hzl' HM5.out.reads HK.out).mono ?_
          rintro e w6 ⟨rfl, rfl⟩
          go_wp2
          go_roundw
          case rel => exact ⟨j + 1, by go_num, by omega, trivial⟩
          case measure => simp [intOf]; omega
        · obtain ⟨w5, rfl⟩ : ∃ w5 : World, w5 = wr := ⟨_, rfl⟩
          go_wp2
          go_loopw [18, 19, 20] (fun i _ _ wr => ∃ q : Nat, i = .int .i64 q ∧ q ≤ pss.length ∧ Hid (Below w5.heap.size w5 wr)) (fun i _ _ _ => pss.length - (intOf i).toNat)
          case atStart => exact ⟨0, rfl, Nat.zero_le _, Below.refl _ _⟩
          case round =>
            obtain ⟨q, rfl, hq, HW⟩ := hrel
            by_cases hlq : q < pss.length
            · have HT6 := Lib.hid (HT5.out.below HW.out hg5)
              have HR6 := Lib.hid (HR5.out.below HW.out)
              obtain ⟨bb, off, aj, cj, z, rfl, hbs, HZ, hc, HK, hz1, hz2⟩ := (HQ5.out.below HW.out).atC (j := q) (by rw [HPl.out]; omega)
              have hzm : z ∈ P := List.mem_of_getElem? HZ.out
              have hzl' : z.length ≤ maxLen := HP.out.all.at HZ.out
              have HKI : Hid (∀ W, Hid (Below wr.heap.size wr W) → Calls Try.prog 14 #[.agg #[.int .i64 V, .slice a1 zss.length c1], .slice aj z.length cj] W fun e w' => ∃ v : Bool, e = .returned (.tuple #[.bool v, .int .i64 0]) ∧ Hid (v = true ↔ Fails L (negs z)) ∧ Hid (Below wr.heap.size wr w')) := fun W hW => by
                refine (impliedOf hV2 HL.out (by have := HP.out.2.1 z hzm; omega) (HP.out.2.2 z hzm) (HR6.out.below hW.out) ((KI.below HK.out (by exact hW.out)).ints) hz1 hz2 HLl.out rfl).mono ?_
                rintro e w' ⟨hb, v, rfl, hv⟩
                exact ⟨v, rfl, hv, hW.out.trans (hb.mono hW.out.size)⟩
              have HSS : Hid (∀ W, Hid (Below wr.heap.size wr W) → W.cell? ⟨w1.heap.size, 0, none⟩ = some (.int .i64 V) ∧ W.cell? ⟨w1.heap.size, 1, none⟩ = some (.slice a1 zss.length c1) ∧ W.cell? ⟨bb, off + q, none⟩ = some (.slice aj z.length cj) ∧ Hid (Below wr.heap.size wr W)) := fun W hW => ⟨(HT6.out.below hW.out HT6.out.lt).c0, (HT6.out.below hW.out HT6.out.lt).c1, (hW.out.cell (p := ⟨bb, off + q, none⟩) hbs).trans hc, hW⟩
              have HD : Hid (Below wr.heap.size wr wr.drew) := (Below.refl _ _).drew
              have HIZ : Hid (Fails L (negs z) → z.any (holdsL m) = true) := HIM.out z hzm
              have HK2 := Lib.hid HK.out
              clear hz1 hz2 hzm
              obtain ⟨w6, hw6⟩ : ∃ w6 : World, w6 = wr := ⟨wr, rfl⟩
              subst hw6
              go_wp2
              go_cut [19, 20] from 95 to 102 (fun s19 s20 wc => ∃ v, s19 = .bool v ∧ s20 = .int .i64 0 ∧ Hid (v = true ↔ Fails L (negs z)) ∧ Hid (Below w6.heap.size w6 wc))
              case first =>
                go_region_held3 (fun W => W.cell? ⟨w1.heap.size, 0, none⟩ = some (.int .i64 V) ∧ W.cell? ⟨w1.heap.size, 1, none⟩ = some (.slice a1 zss.length c1) ∧ W.cell? ⟨bb, off + q, none⟩ = some (.slice aj z.length cj) ∧ Hid (Below w6.heap.size w6 W)) (first | exact HSS.out _ HD | exact HSS.out _ (by assumption))
                  (((with_reducible refine (HKI.out _ ?_).mono ?_); (· assumption); rintro e w' ⟨v, rfl, hvv, hb⟩))
                all_goals (go_wp2_with fail; go_meet; exact ⟨v, rfl, rfl, hvv, hb⟩)
              case rest =>
                obtain ⟨w7, hw7⟩ : ∃ w7 : World, w7 = wc := ⟨wc, rfl⟩
                subst hw7
                obtain ⟨v, rfl, rfl, HVV, HB7⟩ := hcut
                obtain ⟨d0, d1, d2, _⟩ := HSS.out _ HB7
                have HW7 : Hid (Below w5.heap.size w5 w7) := HW.out.trans (HB7.out.mono HW.out.size)
                have hbs7 : bb < w7.heap.size := Nat.lt_of_lt_of_le hbs HB7.out.size
                clear hc HKI HSS HD
                cases v
                · go_wp2
                  go_roundw
                  case rel => exact ⟨q + 1, by go_num, by omega, HW7⟩
                  case measure => simp [intOf]; omega
                · have HA' := Lib.hid (HIZ.out (HVV.out.1 rfl))
                  go_wp2_with fail
                  refine (holds_is HML.out rfl HA'.out _ aj _ cj _ (by unfold maxLen; omega) hzl' (HM5.out.below HW7.out).reads (KI.below HK2.out (by exact HB7.out))).mono ?_
                  rintro e w8 ⟨rfl, rfl⟩
                  go_wp2
                  go_roundw
                  case rel => exact ⟨q + 1, by go_num, by omega, HW7⟩
                  case measure => simp [intOf]; omega
            · have HB6 := Lib.hid (HB5.out.trans (HW.out.mono HB5.out.size))
              go_wp2_with fail
              refine (knownR_any _).mono ?_
              rintro e w7 ⟨rfl, hB7⟩
              have HB7 := Lib.hid (HB6.out.trans (hB7.mono HB6.out.size))
              clear hB7
              go_wp2
              go_ret
              exact ⟨rfl, HB7.out⟩
    · have e3 : (t == -1) = false := by rw [beq_eq_false_iff_ne]; exact h1
      clear h1 HF1 HF2 HTI HV
      go_wp2_with fail
      refine (knownR_any _).mono ?_
      rintro e w6 ⟨rfl, hB6⟩
      have HB6 := Lib.hid (HB5.out.trans (hB6.mono HB5.out.size))
      clear hB6
      go_wp2
      go_ret
      exact ⟨rfl, HB6.out⟩
end Go.Proofs.Ytbljkbdbiceokaa
