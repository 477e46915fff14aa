/-
  RupMore: what a formula implies one with more clauses implies; a proof stays one.
-/
import Derived.Test.YtbljkbdbiceokaaRupW
import Derived.Deep.RegionHeld3
import Derived.Deep.DrawnRows
import Derived.Deep.CutRange
namespace Go.Proofs.Ytbljkbdbiceokaa
open Go.RowKit Go.Lib
open Go.RowKit (Below)

theorem modTo5 (cut : Int) (n : Nat) : ∃ k : Nat, cut % ((n : Int) + 1) = (k : Int) ∧ k ≤ n := by
  have h1 := Int.emod_nonneg cut (show (n : Int) + 1 ≠ 0 by omega)
  have h2 := Int.emod_lt_of_pos cut (show (0 : Int) < (n : Int) + 1 by omega)
  exact ⟨(cut % ((n : Int) + 1)).toNat, by omega, by omega⟩
theorem all_mono {L L' P : List (List Int)} (h : ∀ z ∈ L, z ∈ L') (hg : AllGood L P) : AllGood L' P := fun j hj z hz =>
  (hg j hj z hz).mono (fun y hy => by
    rcases List.mem_append.1 hy with hy | hy
    · exact List.mem_append_left _ (h y hy)
    · exact List.mem_append_right _ hy) (fun x hx => hx)
theorem chk_minus {F P : List (List Int)} {v : Int} (h : ChkV F P v) : v = -1 ↔ AllGood F P ∧ P.getLast? = some [] := by
  rcases h with ⟨k, rfl, hk⟩ | ⟨ha, rfl⟩
  · exact ⟨fun h => by omega, fun h => (hk.notAll h.1).elim⟩
  · split
    · rename_i hl; exact ⟨fun _ => ⟨ha, hl⟩, fun _ => rfl⟩
    · rename_i hl; exact ⟨fun h => by omega, fun h => absurd h.2 hl⟩
theorem more_all {L P B : List (List Int)} (hB : ∀ z ∈ B, Fails L (negs z)) (hg : AllGood L P) : AllGood L (B ++ P) := fun j hj z hz => by
  by_cases h : j < B.length
  · rw [List.getElem?_append_left h] at hz
    exact (hB z (List.mem_of_getElem? hz)).mono (fun y hy => List.mem_append_left _ hy) (fun x hx => hx)
  · rw [List.getElem?_append_right (by omega)] at hz
    refine (hg _ (List.getElem?_eq_some_iff.1 hz).1 z hz).mono (fun y hy => ?_) (fun x hx => hx)
    rcases List.mem_append.1 hy with hy | hy
    · exact List.mem_append_left _ hy
    · refine List.mem_append_right _ ?_
      rw [List.take_append]
      exact List.mem_append_right _ hy

set_option maxRecDepth 100000 in
set_option maxHeartbeats 8000000 in
theorem rupMore_walk (w : World) (n : Int) (hn : (Lit.int .u8 n).wf = true) (a : Option Addr) (c : Nat) (zss : List (List Int)) (hR : RowsR .i8 w a zss) (hA : AllLen zss) (hm : zss.length ≤ maxLen) (hwf : ∀ z ∈ zss, ∀ x ∈ z, (Lit.int .i8 x).wf = true)
    (b : Option Addr) (d : Nat) (pss : List (List Int)) (hQ : RowsR .i8 w b pss) (hQA : AllLen pss) (hqm : pss.length ≤ maxLen) (hqw : ∀ z ∈ pss, ∀ x ∈ z, (Lit.int .i8 x).wf = true) (cut : Int) (hcut : (Lit.int .u8 cut).wf = true) :
    Calls Try.prog 9 #[.int .u8 n, .slice a zss.length c, .slice b pss.length d, .int .u8 cut] w fun e w' => e = .returned (.bool true) ∧ Below w.heap.size w w' := by
  obtain ⟨hn0, hn1⟩ := u8_range hn
  obtain ⟨hd0, hd1⟩ := u8_range hcut
  obtain ⟨j0, hj, hy0, hy1, hy2⟩ := info_parts Try.infoSl
  obtain ⟨V, hV⟩ : ∃ V : Nat, 1 + n % 12 = (V : Int) := ⟨(1 + n % 12).toNat, by omega⟩
  have hV1 : 1 ≤ V := by omega
  have hV2 : V ≤ 12 := by omega
  have HF := Lib.hid (fit_any n V hn0 hn1 hV a c zss w hR hA hm hwf)
  have HCL : Hid (∀ fv W, Below w.heap.size w W → Calls Try.prog 23 #[.agg #[.int .i64 V, fv], .slice b pss.length d] W fun e w' => Below W.heap.size W w' ∧
      ((fitB pss = false ∧ e = .returned (.tuple #[.slice none 0 0, .bool false])) ∨ (fitB pss = true ∧ ∃ pa pc, e = .returned (.tuple #[.slice pa pss.length pc, .bool true]) ∧ pss.length ≤ pc ∧ RowsR .i64 w' pa (fitL V pss)))) :=
    fun fv W hB => clauses_any V hV1 hV2 fv b d pss W (hQ.below hB) hQA hqm hqw
  clear hV hR hA hm hwf hn hn0 hn1 hQ hQA hqm hqw hcut
  go_enter Try.func9, Try.ntmps9
  go_wp2_with fail
  refine HF.out.mono ?_
  rintro e w1 (⟨hf, rfl, hB1⟩ | ⟨hf, a1, c1, rfl, hcap1, _, hR1, hB1⟩)
  · have HB1 := Lib.hid (hB1.alloc hB1.size (.cells #[.int .i64 0, .slice none 0 0] 26))
    clear hB1 hf
    go_wp2_with fail
    refine (knownR_any _).mono ?_
    rintro e w2 ⟨rfl, hB2⟩
    have HB2 := Lib.hid (HB1.out.trans (hB2.mono HB1.out.size))
    clear hB2
    go_wp2
    go_ret
    exact ⟨rfl, HB2.out⟩
  · have HL := Lib.hid (fit_ok hV1 hV2 hf)
    have HLl := Lib.hid (fitL_len (V : Int) zss)
    have hzl : zss.length ≤ 30 := (fitB_parts hf).1
    have HR1 := Lib.hid (hR1.alloc (.cells #[.int .i64 V, .slice a1 zss.length c1] 26))
    have HB1 := Lib.hid (hB1.alloc hB1.size (.cells #[.int .i64 V, .slice a1 zss.length c1] 26))
    have HT := Lib.hid (Two.new w1 (.int .i64 V) (.slice a1 zss.length c1))
    generalize fitL (V : Int) zss = L at HL HLl HR1
    clear hB1 hR1 hf HF
    go_wp2_with fail
    refine (HCL.out _ _ HB1.out).mono ?_
    rintro e w2 ⟨hB2, (⟨hf, rfl⟩ | ⟨hf, pa, pc, rfl, hpc, hQ2⟩)⟩
    · have HB2 := Lib.hid (HB1.out.trans (hB2.mono HB1.out.size))
      clear hB2 hf
      go_wp2_with fail
      refine (knownR_any _).mono ?_
      rintro e w3 ⟨rfl, hB3⟩
      have HB3 := Lib.hid (HB2.out.trans (hB3.mono HB2.out.size))
      clear hB3
      go_wp2
      go_ret
      exact ⟨rfl, HB3.out⟩
    have HP := Lib.hid (fit_ok hV1 hV2 hf)
    have HPl := Lib.hid (fitL_len (V : Int) pss)
    have hpl : pss.length ≤ 30 := (fitB_parts hf).1
    have HQ2 := Lib.hid hQ2
    have HPC := Lib.hid hpc
    have HT2 := Lib.hid (HT.out.below hB2 (by simp))
    have HR2 := Lib.hid (HR1.out.below hB2)
    have HB2 := Lib.hid (HB1.out.trans (hB2.mono HB1.out.size))
    have hg2 : w1.heap.size < w2.heap.size := HT2.out.lt
    generalize fitL (V : Int) pss = P at HP HPl HQ2 hQ2
    obtain ⟨j, hj', hjl⟩ := modTo5 cut zss.length
    have hk0 : (0 : Int) ≤ (j : Int) := by omega
    have hkc : (j : Int) ≤ (c1 : Int) := by omega
    have hkcn : j ≤ c1 := by omega
    obtain ⟨M, hM⟩ : ∃ M : Int, (zss.length : Int) + 1 = M := ⟨_, rfl⟩
    have hwl : IntKind.i64.wrap (↑zss.length + 1) = M := by rw [← hM]; exact IntWalk.i64_in _ (by omega)
    have hnz : (M == 0) = false := by rw [beq_eq_false_iff_ne]; omega
    have hjt : cut.tmod M = (j : Int) := by rw [← hM, Int.tmod_eq_emod_of_nonneg hd0]; exact hj'
    have hje : cut % M = (j : Int) := by rw [← hM]; exact hj'
    have hM1 : ¬ (M = 0) := by omega
    have hwd : IntKind.i64.wrap cut = cut := IntWalk.i64_in _ (by omega)
    have c0 := HT2.out.c0
    have c1' := HT2.out.c1
    have HFIN : Hid (Two ((w2.alloc (.cells #[.int .i64 V, .slice a1 j c1] 26)).drew) w2.heap.size (.int .i64 V) (.slice a1 j c1) ∧ w2.heap.size ≤ w2.heap.size) := ⟨Two.new w2 _ _, Nat.le_refl _⟩
    have HHB : Hid (∀ w', Below w2.heap.size w2 w' → w'.cell? ⟨w1.heap.size, 0, none⟩ = some (.int .i64 V) ∧ w'.cell? ⟨w1.heap.size, 1, none⟩ = some (.slice a1 zss.length c1)) := fun w' hb => ⟨(HT2.out.below hb hg2).c0, (HT2.out.below hb hg2).c1⟩
    clear hB2 hf hQ2 hpc HB1 HR1 HT HCL hM hj' hcap1
    go_wp2
    go_cut [12] from 43 to 55 (fun s12 wc => ∃ g, s12 = .pointer (some ⟨g, 0, none⟩) ∧ Hid (Two wc g (.int .i64 V) (.slice a1 j c1) ∧ w2.heap.size ≤ g) ∧ Hid (Below w2.heap.size w2 wc))
    case first =>
      go_region_held3 (fun w' => w'.cell? ⟨w1.heap.size, 0, none⟩ = some (.int .i64 V) ∧ w'.cell? ⟨w1.heap.size, 1, none⟩ = some (.slice a1 zss.length c1)) ((refine HHB.out _ ?_; (repeat (first | exact Below.refl _ _ | refine Below.drew ?_ | refine Below.setCell ?_ (by simp) _ | refine belowAlloc ?_ _)))) (fail)
      all_goals (go_step; go_step; go_meet; exact ⟨_, rfl, HFIN.out, (boxed w2 _).drew⟩)
    case rest =>
      obtain ⟨g, rfl, HTG, HB3⟩ := hcut
      obtain ⟨w3, rfl⟩ : ∃ w3 : World, w3 = wc := ⟨_, rfl⟩
      have HT3 := Lib.hid (HT2.out.below HB3.out hg2)
      have HR3 := Lib.hid (HR2.out.below HB3.out)
      have HQ3 := Lib.hid (HQ2.out.below HB3.out)
      have HB4 := Lib.hid (HB2.out.trans (HB3.out.mono HB2.out.size))
      have HG3 := Lib.hid HTG.out.1
      have hgl : g < w3.heap.size := HG3.out.lt
      have hg3 : w1.heap.size < w3.heap.size := HT3.out.lt
      have HRK := Lib.hid (HR3.out.take j)
      have hlk : (L.take j).length = j := by rw [List.length_take, HLl.out]; omega
      have HLK := Lib.hid (HL.out.take j)
      have HLKl := Lib.hid hlk
      have hmx : maxLen = 9223372036854775807 := rfl
      clear hwl hnz hjt hje hM1 hwd hk0 hkc hkcn HFIN HHB HTG hlk c0 c1' HT2 HR2 HQ2 HB3 HB2 hg2
      go_wp2
      go_loopw [13, 14, 15, 16, 17, 18] (fun vv i _ _ _ _ wr => ∃ (q : Nat) (B : List (List Int)), i = .int .i64 q ∧ q ≤ pss.length ∧ B.length ≤ q ∧ Hid (∀ z ∈ B, z ∈ P ∧ Fails L (negs z)) ∧ Hid (MixL w3 wr vv B)) (fun _ i _ _ _ _ _ => pss.length - (intOf i).toNat)
      case atStart => exact ⟨0, [], rfl, Nat.zero_le _, Nat.le_refl _, (fun z hz => by simp at hz), MixL.nil (Below.refl _ _)⟩
      case round =>
        obtain ⟨q, B, rfl, hq, hBl, HB, HM⟩ := hrel
        have HTr := Lib.hid (HT3.out.below HM.out.below hg3)
        have HGr := Lib.hid (HG3.out.below HM.out.below hgl)
        have HRr := Lib.hid (HR3.out.below HM.out.below)
        have HRKr := Lib.hid (HRK.out.below HM.out.below)
        have HQr := Lib.hid (HQ3.out.below HM.out.below)
        have hgr : w1.heap.size < wr.heap.size := HTr.out.lt
        have hglr : g < wr.heap.size := HGr.out.lt
        by_cases hlq : q < pss.length
        · obtain ⟨bb, off, aj, cj, z, rfl, hbs, HZ, hc, HK, hz1', hz2'⟩ := HQ3.out.atC (j := q) (by rw [HPl.out]; omega)
          have hzm : z ∈ P := List.mem_of_getElem? HZ.out
          have hzl' : z.length ≤ 20 := HP.out.2.1 z hzm
          have hc' : wr.cell? ⟨bb, off + q, none⟩ = some (.slice aj z.length cj) := (HM.out.below.cell (p := ⟨bb, off + q, none⟩) hbs).trans hc
          have hbr : bb < wr.heap.size := Nat.lt_of_lt_of_le hbs HM.out.below.size
          have HKr := Lib.hid (KI.below HK.out (by exact HM.out.below))
          obtain ⟨w5, hw5⟩ : ∃ w5 : World, w5 = wr := ⟨wr, rfl⟩
          subst hw5
          have HKA : Hid (∀ W, Hid (Below w5.heap.size w5 W) → Calls Try.prog 14 #[.agg #[.int .i64 V, .slice a1 j c1], .slice aj z.length cj] W fun e w' => ∃ v : Bool, e = .returned (.tuple #[.bool v, .int .i64 0]) ∧ Hid (v = true ↔ Fails (L.take j) (negs z)) ∧ Hid (Below w5.heap.size w5 w')) := fun W hW => by
            refine (impliedOf hV2 HLK.out (by omega) (HP.out.2.2 z hzm) (HRKr.out.below hW.out) ((KI.below HKr.out (by exact hW.out)).ints) hz1' hz2' HLKl.out rfl).mono ?_
            rintro e w' ⟨hb, v, rfl, hv⟩
            exact ⟨v, rfl, hv, hW.out.trans (hb.mono hW.out.size)⟩
          have HKB : Hid (∀ W, Hid (Below w5.heap.size w5 W) → Calls Try.prog 14 #[.agg #[.int .i64 V, .slice a1 zss.length c1], .slice aj z.length cj] W fun e w' => ∃ v : Bool, e = .returned (.tuple #[.bool v, .int .i64 0]) ∧ Hid (v = true ↔ Fails L (negs z)) ∧ Hid (Below w5.heap.size w5 w')) := fun W hW => by
            refine (impliedOf hV2 HL.out (by omega) (HP.out.2.2 z hzm) (HRr.out.below hW.out) ((KI.below HKr.out (by exact hW.out)).ints) hz1' hz2' HLl.out rfl).mono ?_
            rintro e w' ⟨hb, v, rfl, hv⟩
            exact ⟨v, rfl, hv, hW.out.trans (hb.mono hW.out.size)⟩
          have HSA : Hid (∀ W, Hid (Below w5.heap.size w5 W) → W.cell? ⟨g, 0, none⟩ = some (.int .i64 V) ∧ W.cell? ⟨g, 1, none⟩ = some (.slice a1 j c1) ∧ W.cell? ⟨bb, off + q, none⟩ = some (.slice aj z.length cj) ∧ Hid (Below w5.heap.size w5 W)) := fun W hW => ⟨(HGr.out.below hW.out hglr).c0, (HGr.out.below hW.out hglr).c1, (hW.out.cell (p := ⟨bb, off + q, none⟩) hbr).trans hc', hW⟩
          have HSB : Hid (∀ W, Hid (Below w5.heap.size w5 W) → W.cell? ⟨w1.heap.size, 0, none⟩ = some (.int .i64 V) ∧ W.cell? ⟨w1.heap.size, 1, none⟩ = some (.slice a1 zss.length c1) ∧ W.cell? ⟨bb, off + q, none⟩ = some (.slice aj z.length cj) ∧ Hid (Below w5.heap.size w5 W)) := fun W hW => ⟨(HTr.out.below hW.out hgr).c0, (HTr.out.below hW.out hgr).c1, (hW.out.cell (p := ⟨bb, off + q, none⟩) hbr).trans hc', hW⟩
          have HD : Hid (Below w5.heap.size w5 w5.drew) := (Below.refl _ _).drew
          have HZM := Lib.hid hzm
          have HZ12 := Lib.hid (And.intro hz1' hz2')
          clear hzm hz1' hz2' hc hc'
          go_wp2
          go_cut [15, 16] from 63 to 70 (fun s15 s16 wc => ∃ r, s15 = .bool r ∧ s16 = .int .i64 0 ∧ Hid (r = true ↔ Fails (L.take j) (negs z)) ∧ Hid (Below w5.heap.size w5 wc))
          case first =>
            go_region_held3 (fun W => W.cell? ⟨g, 0, none⟩ = some (.int .i64 V) ∧ W.cell? ⟨g, 1, none⟩ = some (.slice a1 j c1) ∧ W.cell? ⟨bb, off + q, none⟩ = some (.slice aj z.length cj) ∧ Hid (Below w5.heap.size w5 W)) (first | exact HSA.out _ HD | exact HSA.out _ (by assumption))
              (((with_reducible refine (HKA.out _ ?_).mono ?_); (· assumption); rintro e w' ⟨r, rfl, hr, hb⟩))
            all_goals (go_wp2_with fail; go_meet; exact ⟨r, rfl, rfl, hr, hb⟩)
          case rest =>
            obtain ⟨w6, rfl⟩ : ∃ w6 : World, w6 = wc := ⟨_, rfl⟩
            obtain ⟨r, rfl, rfl, HRA, HB6⟩ := hcut
            have HD6 : Hid (Below w5.heap.size w5 w6.drew) := HB6.out.drew
            obtain ⟨d0, d1, d2, _⟩ := HSB.out _ HB6
            clear HSA HKA HD
            go_wp2
            go_cut [17, 18] from 72 to 79 (fun s17 s18 wc => ∃ r, s17 = .bool r ∧ s18 = .int .i64 0 ∧ Hid (r = true ↔ Fails L (negs z)) ∧ Hid (Below w5.heap.size w5 wc))
            case first =>
              go_region_held3 (fun W => W.cell? ⟨w1.heap.size, 0, none⟩ = some (.int .i64 V) ∧ W.cell? ⟨w1.heap.size, 1, none⟩ = some (.slice a1 zss.length c1) ∧ W.cell? ⟨bb, off + q, none⟩ = some (.slice aj z.length cj) ∧ Hid (Below w5.heap.size w5 W)) (first | exact HSB.out _ HD6 | exact HSB.out _ (by assumption))
                (((with_reducible refine (HKB.out _ ?_).mono ?_); (· assumption); rintro e w' ⟨r2, rfl, hr, hb⟩))
              all_goals (go_wp2_with fail; go_meet; exact ⟨r2, rfl, rfl, hr, hb⟩)
            case rest =>
              obtain ⟨w7, rfl⟩ : ∃ w7 : World, w7 = wc := ⟨_, rfl⟩
              obtain ⟨r2, rfl, rfl, HRB, HB7⟩ := hcut
              obtain ⟨d0', d1', d2', _⟩ := HSB.out _ HB7
              have HM7 := Lib.hid (HM.out.on HB7.out)
              have himp : r = true → r2 = true := fun h => HRB.out.2 ((HRA.out.1 h).mono (fun y hy => List.mem_of_mem_take hy) (fun x hx => hx))
              clear d0 d1 d2 HSB HKB HD6
              cases r2
              · have hr : r = false := by cases r with | false => rfl | true => exact (by have := himp rfl; cases this)
                subst hr
                clear himp
                go_wp2
                go_roundw
                case rel => exact ⟨q + 1, B, by go_num, by omega, by omega, HB, HM7⟩
                case measure => simp [intOf]; omega
              · have HFZ := Lib.hid (HRB.out.1 rfl)
                clear himp HRA HRB
                obtain ⟨hbm, vs, hv7, hrows⟩ := HM7.out
                have HBM := Lib.hid hbm
                have HV7 := Lib.hid hv7
                have HRW := Lib.hid hrows
                have HLR : Hid (LowRow w3 (.slice aj z.length cj) z) := ⟨aj, cj, rfl, HK.out.ints, HZ12.out⟩
                clear hbm hv7 hrows
                cases r
                all_goals
                  go_wp2_with (at_builtin; refine wpList_append_own _ rfl _ _ 24 rfl w3.heap.size 23 j0 (.slice none 0 0) 1 24 Try.underlying24 hj hy0 hy1 hy2 rfl (by decide) _ B.length vs rfl (World.ownsRow.alloc HV7.out _) ⟨w7.heap.size, 0, none⟩ 1 1 [.slice aj z.length cj] rfl rfl (one_new (by simp)) one_slice ?d3 ?d4 ?d5 ?_)
                  case d3 => omega
                  case d4 => omega
                  case d5 => have := HBM.out.size; simp; omega
                  intro v8 w8 hown hgrow _
                  have HM8 : Hid (MixL w3 w8 v8 (B ++ [z])) := MixL.grown (G := B) (Z := [z]) (HBM.out.trans ((boxed w7 (.cells #[.slice aj z.length cj] 23)).mono HBM.out.size)) (World.ownsRow.alloc HV7.out _) HRW.out hgrow hown (fun i y hy => by
                    match i, hy with
                    | 0, hy => cases hy; exact ⟨_, rfl, HLR.out⟩
                    | i + 1, hy => simp at hy)
                  have HB8 : Hid (∀ y ∈ B ++ [z], y ∈ P ∧ Fails L (negs y)) := fun y hy => by
                    rcases List.mem_append.1 hy with hy | hy
                    · exact HB.out y hy
                    · rw [List.mem_singleton] at hy; subst hy; exact ⟨HZM.out, HFZ.out⟩
                  have hBl8 : (B ++ [z]).length ≤ q + 1 := by rw [List.length_append]; simp; exact hBl
                  have HBL8 := Lib.hid hBl8
                  clear hown hgrow hBl8 d0' d1' d2'
                  go_wp2
                  go_roundw
                  case rel => exact ⟨q + 1, _, by go_num, by omega, HBL8.out, HB8, HM8⟩
                  case measure => simp [intOf]; omega
        · obtain ⟨w5, rfl⟩ : ∃ w5 : World, w5 = wr := ⟨_, rfl⟩
          have HB5 := Lib.hid (HB4.out.trans (HM.out.below.mono HB4.out.size))
          have hBP : B.length + pss.length ≤ 60 := by omega
          have c0 := HGr.out.c0
          have c1' := HGr.out.c1
          have e0 := HTr.out.c0
          have e1 := HTr.out.c1
          clear hgl hg3 HRK
          go_wp2_with fail
          refine (checkOf' hV2 HLK.out HP.out HRKr.out HQr.out (by rw [HPl.out]; exact HPC.out) HLKl.out HPl.out).mono ?_
          rintro e w6 ⟨hB6, x, rfl, hx⟩
          have HM6 := Lib.hid (HM.out.on hB6)
          have HT6 := Lib.hid (HTr.out.below hB6 hgr)
          have HR6 := Lib.hid (HRr.out.below hB6)
          have HQ6 := Lib.hid (HQr.out.below hB6)
          have HX := Lib.hid (chk_minus hx)
          have HB6 := Lib.hid (HB5.out.trans (hB6.mono HB5.out.size))
          have hg6 : w1.heap.size < w6.heap.size := HT6.out.lt
          clear hB6 hx c0 c1' e0 e1 HM HTr HGr HRr HRKr HQr hgr hglr
          have e0 := HT6.out.c0
          have e1 := HT6.out.c1
          go_wp2_with fail
          refine (checkOf' hV2 HL.out HP.out HR6.out HQ6.out (by rw [HPl.out]; exact HPC.out) HLl.out HPl.out).mono ?_
          rintro e w7 ⟨hB7, y, rfl, hy⟩
          have HM7 := Lib.hid (HM6.out.on hB7)
          have HT7 := Lib.hid (HT6.out.below hB7 hg6)
          have HR7 := Lib.hid (HR6.out.below hB7)
          have HY := Lib.hid (chk_minus hy)
          have HB7 := Lib.hid (HB6.out.trans (hB7.mono HB6.out.size))
          have hg7 : w1.heap.size < w7.heap.size := HT7.out.lt
          clear hB7 hy e0 e1 HM6 HT6 HR6 HQ6 hg6
          have HXY : Hid (x = -1 → y = -1) := fun h => HY.out.2 ⟨all_mono (fun z hz => List.mem_of_mem_take hz) (HX.out.1 h).1, (HX.out.1 h).2⟩
          obtain ⟨N, hN⟩ : ∃ N, (B ++ P).length = N := ⟨_, rfl⟩
          have hN60 : N ≤ 60 := by rw [List.length_append, HPl.out] at hN; omega
          have HNN := Lib.hid hN
          have HMd : Hid (MixL w3 w7.drew _ B) := HM7.out.on ((Below.refl _ _).drew)
          have HD : Hid (Below w3.heap.size w3 w7.drew) := HMd.out.below
          have HBB : Hid (∀ W, Hid (Below w3.heap.size w3 W) → w7.heap.size ≤ W.heap.size → Hid (Below w.heap.size w W)) := fun W hW _ => by
            have h4 : Below w.heap.size w w3 := HB4.out
            exact h4.trans (hW.out.mono h4.size)
          have HTL : Hid (∀ W, Hid (Below w3.heap.size w3 W) → Two W w1.heap.size (.int .i64 V) (.slice a1 zss.length c1) ∧ RowsR .i64 W a1 L) := fun W hW => ⟨HT3.out.below hW.out HT3.out.lt, HR3.out.below hW.out⟩
          have HSS : Hid (∀ W, Hid (Below w3.heap.size w3 W) → W.cell? ⟨w1.heap.size, 0, none⟩ = some (.int .i64 V) ∧ W.cell? ⟨w1.heap.size, 1, none⟩ = some (.slice a1 zss.length c1) ∧ Hid (Below w3.heap.size w3 W)) := fun W hW => ⟨(HTL.out W hW).1.c0, (HTL.out W hW).1.c1, hW⟩
          have HAP : Hid (∀ v' w', MixL w3 w' v' (B ++ P) → ∃ ga gc, v' = .slice ga N gc ∧ Hid (N ≤ gc ∧ RowsR .i64 w' ga (B ++ P)) ∧ Hid (Below w3.heap.size w3 w')) := fun v' w' h => by
            obtain ⟨ga, gc, rfl, h1, h2⟩ := h.rows
            rw [HNN.out] at h1 ⊢
            exact ⟨ga, gc, rfl, ⟨h1, h2⟩, h.below⟩
          have HKC : Hid (∀ W ga gc, Hid (Below w3.heap.size w3 W) → Hid (N ≤ gc ∧ RowsR .i64 W ga (B ++ P)) → Calls Try.prog 18 #[.agg #[.int .i64 V, .slice a1 zss.length c1], .slice ga N gc] W fun e w' => ∃ z, e = .returned (.tuple #[.int .i64 z, .int .i64 0]) ∧ Hid (y = -1 → z = -1) ∧ Hid (Below w3.heap.size w3 w')) := fun W ga gc hW hO => by
            refine (checkOf (P := B ++ P) hV2 HL.out (by rw [HNN.out]; omega) (fun u hu => ?_) (fun u hu => ?_) (HTL.out W hW).2 hO.out.2 (by rw [HNN.out]; exact hO.out.1) HLl.out HNN.out).mono ?_
            · rcases List.mem_append.1 hu with hu | hu
              · have := HP.out.2.1 u (HB.out u hu).1; omega
              · have := HP.out.2.1 u hu; omega
            · rcases List.mem_append.1 hu with hu | hu
              · exact HP.out.2.2 u (HB.out u hu).1
              · exact HP.out.2.2 u hu
            · rintro e w' ⟨hb, z, rfl, hz⟩
              refine ⟨z, rfl, fun h => (chk_minus hz).2 ⟨more_all (fun u hu => (HB.out u hu).2) (HY.out.1 h).1, ?_⟩, hW.out.trans (hb.mono hW.out.size)⟩
              rw [List.getLast?_append, (HY.out.1 h).2]; rfl
          have hpa : pa = none → pss.length = 0 := fun h => by
            rcases HQ3.out with h0 | ⟨b0, off0, h1, _⟩
            · rw [← HPl.out]; exact h0
            · rw [h1] at h; cases h
          have HPA := Lib.hid hpa
          clear hN hpa
          go_wp2
          go_cut [23, 24] from 114 to 120 (fun s23 s24 wc => ∃ z, s23 = .int .i64 z ∧ s24 = .int .i64 0 ∧ Hid (y = -1 → z = -1) ∧ Hid (Below w3.heap.size w3 wc))
          case first =>
            go_region_held3 (fun W => W.cell? ⟨w1.heap.size, 0, none⟩ = some (.int .i64 V) ∧ W.cell? ⟨w1.heap.size, 1, none⟩ = some (.slice a1 zss.length c1) ∧ Hid (Below w3.heap.size w3 W)) (first | exact HSS.out _ HD | exact HSS.out _ (by assumption))
              (first | (refine step_append_low rfl _ _ rfl _ (by rfl) pa pss.length pc (by rfl) HMd.out HPl.out HQ3.out (by omega) HPA.out ?_; intro v' w8 hM8 _ _; obtain ⟨ga, gc, rfl, hR8, hb8⟩ := HAP.out _ _ hM8; clear hM8) | (go_at_call 18; refine (HKC.out _ _ _ (by assumption) hR8).mono ?_; rintro e w' ⟨z, rfl, hz, hb9⟩))
            all_goals (go_wp2_with fail; go_meet; exact ⟨z, rfl, rfl, hz, hb9⟩)
          case rest =>
            obtain ⟨w8, rfl⟩ : ∃ w8 : World, w8 = wc := ⟨_, rfl⟩
            obtain ⟨z, rfl, rfl, HZ, HB8⟩ := hcut
            have HB9 : Hid (Below w.heap.size w w8) := HB4.out.trans (HB8.out.mono HB4.out.size)
            have hcase : (x = -1 ∧ y = -1 ∧ z = -1) ∨ ((x == -1) = false ∧ y = -1 ∧ z = -1) ∨ ((x == -1) = false ∧ (y == -1) = false) := by
              by_cases hy : y = -1
              · by_cases hx : x = -1
                · exact .inl ⟨hx, hy, HZ.out hy⟩
                · exact .inr (.inl ⟨by rw [beq_eq_false_iff_ne]; exact hx, hy, HZ.out hy⟩)
              · have hx : x ≠ -1 := fun h => hy (HXY.out h)
                exact .inr (.inr ⟨by rw [beq_eq_false_iff_ne]; exact hx, by rw [beq_eq_false_iff_ne]; exact hy⟩)
            clear HX HY HXY HZ
            rcases hcase with ⟨rfl, rfl, rfl⟩ | ⟨hx, rfl, rfl⟩ | ⟨hx, hy⟩
            rotate_left
            · have hx2 : (x != -1) = true := by rw [bne, hx]; rfl
              have hx3 : ¬ x = -1 := by simpa using hx
              go_wp2_with fail
              refine (knownR_any _).mono ?_
              rintro e w9 ⟨rfl, hB9⟩
              have HB10 := Lib.hid (HB9.out.trans (hB9.mono HB9.out.size))
              clear hB9
              go_wp2
              go_ret
              exact ⟨rfl, HB10.out⟩
            · have hx2 : (x != -1) = true := by rw [bne, hx]; rfl
              have hx3 : ¬ x = -1 := by simpa using hx
              have hy2 : (y != -1) = true := by rw [bne, hy]; rfl
              have hy3 : ¬ y = -1 := by simpa using hy
              go_wp2_with fail
              refine (knownR_any _).mono ?_
              rintro e w9 ⟨rfl, hB9⟩
              have HB10 := Lib.hid (HB9.out.trans (hB9.mono HB9.out.size))
              clear hB9
              go_wp2
              go_ret
              exact ⟨rfl, HB10.out⟩
            all_goals
              go_wp2_with fail
              refine (knownR_any _).mono ?_
              rintro e w9 ⟨rfl, hB9⟩
              have HB10 := Lib.hid (HB9.out.trans (hB9.mono HB9.out.size))
              clear hB9
              go_wp2
              go_ret
              exact ⟨rfl, HB10.out⟩
end Go.Proofs.Ytbljkbdbiceokaa
