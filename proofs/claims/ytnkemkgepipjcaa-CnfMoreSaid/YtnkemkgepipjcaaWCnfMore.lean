/-
  CnfMore's walk.
-/
import Derived.Test.YtnkemkgepipjcaaCnfF
import Derived.Deep.RegionHeld3
import Derived.Deep.DrawnRows
namespace Go.Proofs.Ytnkemkgepipjcaa
open Go.RowKit Go.Lib
open Go.RowKit (Below)
attribute [local go_sem ↓] Go.wp_at_zero Go.wp_at_succ

/-- With clauses appended the number stays, or becomes that of one of them if it was -1. -/
theorem firstI_more (m : List Bool) (L : List (List Int)) (k : Nat) : (firstI m (L.take k) = -1 ∧ (firstI m L = -1 ∨ (k : Int) ≤ firstI m L)) ∨ (firstI m (L.take k) ≠ -1 ∧ firstI m (L.take k) = firstI m L) := by
  rcases firstI_spec m (L.take k) with ⟨h, h1⟩ | ⟨t, h, ht, h1, h2⟩
  · left
    refine ⟨h, ?_⟩
    rcases firstI_spec m L with ⟨g, _⟩ | ⟨s, g, hs, g1, g2⟩
    · exact .inl g
    · right
      rw [g]
      by_cases hsk : s < k
      · have e : (L.take k)[s]? = some L[s] := by rw [List.getElem?_take, if_pos hsk]; exact List.getElem?_eq_getElem hs
        have := h1 s _ e
        rw [g2 _ (List.getElem?_eq_getElem hs)] at this
        cases this
      · omega
  · right
    have htk : t < k ∧ t < L.length := by simp at ht; omega
    refine ⟨by omega, ?_⟩
    have et : (L.take k)[t]? = some L[t] := by rw [List.getElem?_take, if_pos htk.1]; exact List.getElem?_eq_getElem htk.2
    rcases firstI_spec m L with ⟨g, g1⟩ | ⟨s, g, hs, g1, g2⟩
    · have a1 := g1 t _ (List.getElem?_eq_getElem htk.2)
      rw [h2 _ et] at a1
      cases a1
    · rw [h, g]
      rcases Nat.lt_trichotomy s t with hst | hst | hst
      · have e : (L.take k)[s]? = some L[s] := by rw [List.getElem?_take, if_pos (by omega)]; exact List.getElem?_eq_getElem hs
        have a1 := h1 s _ hst e
        rw [g2 _ (List.getElem?_eq_getElem hs)] at a1
        cases a1
      · omega
      · have a1 := g1 t _ hst (List.getElem?_eq_getElem htk.2)
        rw [h2 _ et] at a1
        cases a1

set_option maxRecDepth 100000 in
set_option maxHeartbeats 4000000 in
theorem cnfMore_walk (w : World) (n : Int) (hn : (Lit.int .u8 n).wf = true) (a : Option Addr) (c : Nat) (zss : List (List Int)) (hR : RowsR .i8 w a zss) (hA : AllLen zss) (hm : zss.length ≤ maxLen) (hw : ∀ z ∈ zss, ∀ n ∈ z, (Lit.int .i8 n).wf = true)
    (bits : Int) (hb : (Lit.int .u16 bits).wf = true) (cut : Int) (hcut : (Lit.int .u8 cut).wf = true) :
    Calls Try.prog 8 #[.int .u8 n, .slice a zss.length c, .int .u16 bits, .int .u8 cut] w fun e w' => e = .returned (.bool true) ∧ Below w.heap.size w w' := by
  obtain ⟨hn0, hn1⟩ := u8_range hn
  obtain ⟨hc0, hc1⟩ := u8_range hcut
  obtain ⟨hb0, hb1⟩ := u16_range hb
  obtain ⟨N, hN⟩ : ∃ N : Nat, 1 + n % 12 = (N : Int) := ⟨(1 + n % 12).toNat, by omega⟩
  have hN1 : 1 ≤ N := by omega
  have hN2 : N ≤ 12 := by omega
  have HF := Lib.hid (fit_any n N hn0 hn1 hN a c zss w hR hA hm hw)
  clear hN hR hA hm hw hn hb hcut
  go_enter Try.func8, Try.ntmps8
  go_wp2_with fail
  refine HF.out.mono ?_
  rintro e w1 (⟨hf, rfl, hB1⟩ | ⟨hf, a1, c1, rfl, hcap, hnil, hR1, hB1⟩)
  · have HB1 := Lib.hid (hB1.alloc hB1.size (.cells #[.int .i64 0, .slice none 0 0] 24))
    clear hB1 hf
    go_wp2_with fail
    refine (known_any _).mono ?_
    rintro e w2 ⟨rfl, hB2⟩
    have HB2 := Lib.hid (HB1.out.trans (hB2.mono HB1.out.size))
    clear hB2
    go_wp2
    go_ret
    exact ⟨rfl, HB2.out⟩
  · have hz := (fitB_parts hf).1
    obtain ⟨k, hk⟩ : ∃ k : Nat, cut % ((zss.length : Int) + 1) = (k : Int) := ⟨(cut % ((zss.length : Int) + 1)).toNat, by have := Int.emod_nonneg cut (show (zss.length : Int) + 1 ≠ 0 by omega); omega⟩
    have hkl : k ≤ zss.length := by have := Int.emod_lt_of_pos cut (show (0 : Int) < (zss.length : Int) + 1 by omega); omega
    have HL := Lib.hid (fitL_len N zss)
    have HLK : Hid (((fitL N zss).take k).length = k) := by unfold Hid; rw [List.length_take, fitL_len]; omega
    have HC := Lib.hid (fitL_check (V := N) (W := N) (by omega) (by omega) (by omega) (by omega) hf)
    have HCK : Hid (checkF N ((fitL N zss).take k) = 0) := by unfold Hid; rw [← fitL_take]; exact fitL_check (by omega) (by omega) (by omega) (by omega) (fitB_take hf k)
    have HA := Lib.hid (fitL_all (V := N) hf)
    have HAK : Hid (AllLen ((fitL N zss).take k)) := by unfold Hid; rw [← fitL_take]; exact fitL_all (fitB_take hf k)
    have HR1 := Lib.hid (hR1.alloc (.cells #[.int .i64 N, .slice a1 zss.length c1] 24))
    have HB1 := Lib.hid (hB1.alloc hB1.size (.cells #[.int .i64 N, .slice a1 zss.length c1] 24))
    have HT := Lib.hid (Two.new w1 (.int .i64 N) (.slice a1 zss.length c1))
    generalize fitL N zss = L at HL HC HA HR1 HLK HCK HAK
    clear hB1 hR1 hf HF
    go_wp2_with fail
    refine (model_any N (by omega) bits _ hb0 hb1).mono ?_
    rintro e w2 ⟨m, gm, hml, rfl, hM, hB2⟩
    have HT2 := Lib.hid (HT.out.below hB2 (by simp))
    have hF := firstN_in (m := m) HC.out (by rw [hml])
    have hG := firstN_in (m := m) HCK.out (by rw [hml])
    obtain ⟨t, ht⟩ : ∃ t, firstI m L = t := ⟨_, rfl⟩
    obtain ⟨s, hs⟩ : ∃ s, firstI m (L.take k) = s := ⟨_, rfl⟩
    have hMore := firstI_more m L k
    rw [ht, hs] at hMore
    rw [ht] at hF
    rw [hs] at hG
    have HF1 := Lib.hid hF.1
    have HF2 := Lib.hid hF.2
    have HG1 := Lib.hid hG.1
    have HG2 := Lib.hid hG.2
    have HMO := Lib.hid hMore
    have HML := Lib.hid hml
    have HM := Lib.hid hM.reads
    have HR2 := Lib.hid (HR1.out.below hB2)
    have HB2 := Lib.hid (HB1.out.trans (hB2.mono HB1.out.size))
    have hg1 : w1.heap.size < w2.heap.size := HT2.out.lt
    have c0 := HT2.out.c0
    have c1' := HT2.out.c1
    have HD : Hid (Below w2.heap.size w2 w2.drew) := (Below.refl _ _).drew
    have HH : Hid (∀ w', Hid (Below w2.heap.size w2 w') → w'.cell? ⟨w1.heap.size, 0, none⟩ = some (.int .i64 N) ∧ w'.cell? ⟨w1.heap.size, 1, none⟩ = some (.slice a1 zss.length c1) ∧ Hid (Below w2.heap.size w2 w')) :=
      fun w' hb => ⟨(HT2.out.below hb.out hg1).c0, (HT2.out.below hb.out hg1).c1, hb⟩
    have K15 : Hid (∀ W, Hid (Below w2.heap.size w2 W) → Calls Try.prog 15 #[.agg #[.int .i64 N, .slice a1 k c1], .slice (some ⟨gm, 0, none⟩) N N] W fun e w' => e = .returned (.tuple #[.int .i64 s, .int .i64 0]) ∧ Hid (Below w2.heap.size w2 w')) := fun W hW =>
      (first_is HLK.out HML.out HG1.out HG2.out a1 c1 _ N W (by unfold maxLen; omega) HAK.out (by unfold maxLen; omega) ((HR2.out.take k).below hW.out) (HM.out.below hW.out)).mono fun e w' ⟨he, hb⟩ => ⟨he, hW.out.trans (hb.mono hW.out.size)⟩
    clear hF ht hG hs hMore hml hM hB2 HR1 HB1 HT
    have hkc : (k : Int) ≤ (c1 : Int) := by omega
    have hk0 : (0 : Int) ≤ (k : Int) := by omega
    have HCLR := Lib.hid hk
    clear hnil
    go_wp2
    go_region_held3 (fun w' => w'.cell? ⟨w1.heap.size, 0, none⟩ = some (.int .i64 N) ∧ w'.cell? ⟨w1.heap.size, 1, none⟩ = some (.slice a1 zss.length c1) ∧ Hid (Below w2.heap.size w2 w')) (first | exact HH.out _ HD | exact HH.out _ (by assumption))
      (first | (go_at_call 15; refine (K15.out _ (by assumption)).mono ?_; rintro e w' ⟨rfl, hb⟩))
    clear c0 c1' hk
    have c0 := (HH.out _ hb).1
    have c1' := (HH.out _ hb).2.1
    go_wp2_with fail
    refine (first_is HL.out HML.out HF1.out HF2.out _ _ _ _ _ (by unfold maxLen; omega) HA.out (by unfold maxLen; omega) (HR2.out.below hb.out) (HM.out.below hb.out)).mono ?_
    rintro e w4 ⟨rfl, hB4⟩
    have HB4 := Lib.hid ((HB2.out.trans (hb.out.mono HB2.out.size)).trans (hB4.mono (Nat.le_trans HB2.out.size hb.out.size)))
    clear hB4 c0 c1' hkc hcap
    rcases HMO.out with ⟨h1, h2 | h2⟩ | ⟨h1, h2⟩
    · have e1 : (s == -1) = true := by simp [h1]
      have e2 : (t == -1) = true := by simp [h2]
      clear h1 h2
      go_wp2_with fail
      refine (known_any _).mono ?_
      rintro e w5 ⟨rfl, hB5⟩
      have HB5 := Lib.hid (HB4.out.trans (hB5.mono HB4.out.size))
      clear hB5
      go_wp2
      go_ret
      exact ⟨rfl, HB5.out⟩
    · have e1 : (s == -1) = true := by simp [h1]
      have e2 : (t == -1) = false := by simp; omega
      have e3 : decide ((k : Int) ≤ t) = true := by simp; omega
      clear h1
      go_wp2_with fail
      refine (known_any _).mono ?_
      rintro e w5 ⟨rfl, hB5⟩
      have HB5 := Lib.hid (HB4.out.trans (hB5.mono HB4.out.size))
      clear hB5
      go_wp2
      go_ret
      exact ⟨rfl, HB5.out⟩
    · have e1 : (s == -1) = false := by simp [h1]
      have e2 : (s != -1) = true := by simp [h1]
      have e3 : (s == t) = true := by simp [h2]
      clear h1 h2
      go_wp2_with fail
      refine (known_any _).mono ?_
      rintro e w5 ⟨rfl, hB5⟩
      have HB5 := Lib.hid (HB4.out.trans (hB5.mono HB4.out.size))
      clear hB5
      go_wp2
      go_ret
      exact ⟨rfl, HB5.out⟩
end Go.Proofs.Ytnkemkgepipjcaa
