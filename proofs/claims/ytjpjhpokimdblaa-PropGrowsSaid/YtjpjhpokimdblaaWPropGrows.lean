/-
  PropGrows: what was returned, assumed, gives the same; with more assumptions, or more clauses, at least as much.
-/
import Derived.Test.YtjpjhpokimdblaaPropS
import Derived.Deep.CutRange
namespace Go.Proofs.Ytjpjhpokimdblaa
open Go.RowKit Go.Lib
open Go.RowKit (Below)

theorem IntsR.take {w : World} {a : Option Addr} {zs : List Int} (h : IntsR w a zs) (k : Nat) : IntsR w a (zs.take k) := by
  rcases h with h | ⟨b, off, ha, hs, hc⟩
  · exact .inl (by rw [List.length_take]; omega)
  · refine .inr ⟨b, off, ha, hs, fun j hj => ?_⟩
    rw [List.length_take] at hj
    rw [hc j (by omega)]
    simp [List.getD_eq_getElem?_getD, show j < k by omega]
theorem modTo (cut : Int) (n : Nat) : ∃ k : Nat, cut % ((n : Int) + 1) = (k : Int) ∧ k ≤ n := by
  have h1 := Int.emod_nonneg cut (show (n : Int) + 1 ≠ 0 by omega)
  have h2 := Int.emod_lt_of_pos cut (show (0 : Int) < (n : Int) + 1 by omega)
  exact ⟨(cut % ((n : Int) + 1)).toNat, by omega, by omega⟩
theorem follows_more {n : Nat} {F F' : List (List Int)} {A A' u v : List Int} (hF : ∀ c ∈ F, c ∈ F') (hA : ∀ x ∈ A, x ∈ A') (h : Follows n F A u) (h' : Follows n F' A' v) {x : Int} (hx : x ∈ u) : x ∈ v := by
  obtain ⟨_, _, _, _, _, _, h1⟩ := h
  obtain ⟨_, _, _, _, _, _, h2⟩ := h'
  exact (h2 x).2 (((h1 x).1 hx).mono hF hA)

set_option maxRecDepth 100000 in
set_option maxHeartbeats 8000000 in
theorem propGrows_walk (w : World) (n : Int) (hn : (Lit.int .u8 n).wf = true) (a : Option Addr) (c : Nat) (zss : List (List Int)) (hR : RowsR .i8 w a zss) (hA : AllLen zss) (hm : zss.length ≤ maxLen) (hwf : ∀ z ∈ zss, ∀ x ∈ z, (Lit.int .i8 x).wf = true)
    (b : Option Addr) (d : Nat) (qs : List Int) (hQ : KI .i8 w b qs) (hqw : ∀ n ∈ qs, (Lit.int .i8 n).wf = true) (hqm : qs.length ≤ maxLen) (cut : Int) (hcut : (Lit.int .u8 cut).wf = true) (drop : Int) (hdrop : (Lit.int .u8 drop).wf = true) :
    Calls Try.prog 9 #[.int .u8 n, .slice a zss.length c, .slice b qs.length d, .int .u8 cut, .int .u8 drop] w fun e w' => e = .returned (.bool true) ∧ Below w.heap.size w w' := by
  obtain ⟨hn0, hn1⟩ := u8_range hn
  obtain ⟨hc0, hc1⟩ := u8_range hcut
  obtain ⟨hd0, hd1⟩ := u8_range hdrop
  obtain ⟨V, hV⟩ : ∃ V : Nat, 1 + n % 12 = (V : Int) := ⟨(1 + n % 12).toNat, by omega⟩
  have hV1 : 1 ≤ V := by omega
  have hV2 : V ≤ 12 := by omega
  have HF := Lib.hid (fit_any n V hn0 hn1 hV a c zss w hR hA hm hwf)
  have HQ := Lib.hid hQ
  have HQW := Lib.hid hqw
  have HQM := Lib.hid hqm
  clear hV hR hA hm hwf hn hn0 hn1 hQ hqw hqm hcut hdrop
  go_enter Try.func9, Try.ntmps9
  go_wp2_with fail
  refine HF.out.mono ?_
  rintro e w1 (⟨hf, rfl, hB1⟩ | ⟨hf, a1, c1, rfl, hcap1, _, hR1, hB1⟩)
  · have HB1 := Lib.hid (hB1.alloc hB1.size (.cells #[.int .i64 0, .slice none 0 0] 26))
    clear hB1 hf
    go_wp2_with fail
    refine (knownP_any _).mono ?_
    rintro e w2 ⟨rfl, hB2⟩
    have HB2 := Lib.hid (HB1.out.trans (hB2.mono HB1.out.size))
    clear hB2
    go_wp2
    go_ret
    exact ⟨rfl, HB2.out⟩
  · have HFB := Lib.hid hf
    have HR1 := Lib.hid (hR1.alloc (.cells #[.int .i64 V, .slice a1 zss.length c1] 26))
    have HB1 := Lib.hid (hB1.alloc hB1.size (.cells #[.int .i64 V, .slice a1 zss.length c1] 26))
    have HT := Lib.hid (Two.new w1 (.int .i64 V) (.slice a1 zss.length c1))
    have HQ1 := Lib.hid ((KI.below HQ.out (by exact hB1)).alloc (.cells #[.int .i64 V, .slice a1 zss.length c1] 26))
    have hzl : zss.length ≤ 30 := (fitB_parts hf).1
    clear hB1 hR1 hf HF
    go_wp2_with fail
    refine (assumed_any V (by omega) (by omega) _ b d qs _ HQW.out HQM.out HQ1.out).mono ?_
    rintro e w2 ⟨v2, rfl, hO, hB2⟩
    obtain ⟨va, vc, rfl, hVI, _, hvc, _⟩ := hO.parts
    have HXO : Hid (∀ x ∈ fitZ (V : Int) (qs.take 12), -(V : Int) ≤ x ∧ x ≤ V ∧ x ≠ 0) := fitZ_range V (by omega) _
    have hxl : (fitZ (V : Int) (qs.take 12)).length ≤ 12 := by
      have h1 := fitZ_le V (qs.take 12)
      have h2 : (qs.take 12).length ≤ 12 := List.length_take_le _ _
      omega
    obtain ⟨xs, hxs⟩ : ∃ xs, fitZ (V : Int) (qs.take 12) = xs := ⟨_, rfl⟩
    rw [hxs] at HXO hxl hVI hvc
    rw [hxs]
    have HT2 := Lib.hid (HT.out.below hB2 (by simp))
    have HR2 := Lib.hid (HR1.out.below hB2)
    have HB2 := Lib.hid (HB1.out.trans (hB2.mono HB1.out.size))
    have HX2 := Lib.hid hVI
    have hg1 : w1.heap.size < w2.heap.size := HT2.out.lt
    have c0 := HT2.out.c0
    have c1' := HT2.out.c1
    obtain ⟨k, hk, hkl⟩ := modTo cut xs.length
    obtain ⟨j, hj, hjl⟩ := modTo drop zss.length
    have hk0 : (0 : Int) ≤ (k : Int) := by omega
    have hkc : (k : Int) ≤ (vc : Int) := by omega
    have hj0 : (0 : Int) ≤ (j : Int) := by omega
    have hjc : (j : Int) ≤ (c1 : Int) := by omega
    have hjcn : j ≤ c1 := by omega
    obtain ⟨M, hM⟩ : ∃ M : Int, (zss.length : Int) + 1 = M := ⟨_, rfl⟩
    have hwl : IntKind.i64.wrap (↑zss.length + 1) = M := by rw [← hM]; exact IntWalk.i64_in _ (by omega)
    have hnz : (M == 0) = false := by rw [beq_eq_false_iff_ne]; omega
    have hjt : drop.tmod M = (j : Int) := by rw [← hM, Int.tmod_eq_emod_of_nonneg hd0]; exact hj
    have hje : drop % M = (j : Int) := by rw [← hM]; exact hj
    have hM1 : ¬ (M = 0) := by omega
    have hwd : IntKind.i64.wrap drop = drop := IntWalk.i64_in _ (by omega)
    clear hM hj
    have HFIN : Hid (Two ((w2.alloc (.cells #[.int .i64 V, .slice a1 j c1] 26)).drew) w2.heap.size (.int .i64 V) (.slice a1 j c1) ∧ w2.heap.size ≤ w2.heap.size) := ⟨Two.new w2 _ _, Nat.le_refl _⟩
    have HHB : Hid (∀ w', Below w2.heap.size w2 w' → w'.cell? ⟨w1.heap.size, 0, none⟩ = some (.int .i64 V) ∧ w'.cell? ⟨w1.heap.size, 1, none⟩ = some (.slice a1 zss.length c1)) := fun w' hb => ⟨(HT2.out.below hb hg1).c0, (HT2.out.below hb hg1).c1⟩
    clear hxs hVI hO hB2 HB1 HR1 HT HQ HQ1 HQM HQW
    go_wp2
    go_cut [14, 15] from 25 to 57 (fun s14 s15 wc => s14 = .slice va k vc ∧ ∃ g, s15 = .pointer (some ⟨g, 0, none⟩) ∧ Hid (Two wc g (.int .i64 V) (.slice a1 j c1) ∧ w2.heap.size ≤ g) ∧ Hid (Below w2.heap.size w2 wc))
    case first =>
      go_region_held3 (fun w' => w'.cell? ⟨w1.heap.size, 0, none⟩ = some (.int .i64 V) ∧ w'.cell? ⟨w1.heap.size, 1, none⟩ = some (.slice a1 zss.length c1)) ((refine HHB.out _ ?_; (repeat (first | exact Below.refl _ _ | refine Below.drew ?_ | refine Below.setCell ?_ (by simp) _ | refine belowAlloc ?_ _)))) (fail)
      all_goals (go_step; go_step; go_meet; exact ⟨rfl, _, rfl, HFIN.out, (boxed w2 _).drew⟩)
    case rest =>
      obtain ⟨rfl, g, rfl, HTG, HB3⟩ := hcut
      obtain ⟨w3, hw3⟩ : ∃ w3 : World, w3 = wc := ⟨wc, rfl⟩
      subst hw3
      have HFK : Hid (fitB (zss.take j) = true) := fitB_take HFB.out j
      have HRK : Hid (RowsR .i64 w3 a1 (fitL V (zss.take j))) := by
        unfold Hid
        rw [fitL_take]
        exact (HR2.out.below HB3.out).take j
      have hlk : (fitL (V : Int) (zss.take j)).length = j := by rw [fitL_len, List.length_take]; omega
      have HXK := Lib.hid ((HX2.out.below HB3.out).take k)
      have hxk : (xs.take k).length = k := by rw [List.length_take]; omega
      have HXOK : Hid (∀ x ∈ xs.take k, -(V : Int) ≤ x ∧ x ≤ V ∧ x ≠ 0) := fun x hx => HXO.out x (List.mem_of_mem_take hx)
      have hmx : maxLen = 9223372036854775807 := rfl
      have HU1 := Lib.hid (unitsFit hV1 hV2 HFK.out HXOK.out (by rw [hxk]; omega) (c := c1) (xc := vc) HRK.out HXK.out hlk hxk)
      have c2 := HTG.out.1.c0
      have c3 := HTG.out.1.c1
      have HXL : Hid (xs.length ≤ maxLen) := by unfold Hid; omega
      clear c0 c1' hlk hxk hwl hnz hjt hje hwd hM1 hmx HHB HFIN hk hk0 hkc hj0 hjc
      go_wp2_with fail
      refine HU1.out.mono ?_
      rintro e w4 ⟨hB4, hres1⟩
      have HB34 := Lib.hid (HB3.out.trans (hB4.mono HB3.out.size))
      have HTF := Lib.hid (HT2.out.below HB34.out hg1)
      have HR4 := Lib.hid (HR2.out.below HB34.out)
      have HX4 := Lib.hid (HX2.out.below HB34.out)
      have c0 := HTF.out.c0
      have c1' := HTF.out.c1
      have hg4 : w1.heap.size < w4.heap.size := HTF.out.lt
      have HRES1 := Lib.hid hres1
      clear hB4 hres1 c2 c3 HU1
      have HU2 := Lib.hid (unitsFit hV1 hV2 HFB.out HXO.out HXL.out (c := c1) (xc := vc) HR4.out HX4.out (fitL_len _ _) rfl)
      have HMF : Hid (∀ c ∈ fitL (V : Int) (zss.take j), c ∈ fitL (V : Int) zss) := fun c hc => by rw [fitL_take] at hc; exact List.mem_of_mem_take hc
      have HMX : Hid (∀ x ∈ xs.take k, x ∈ xs) := fun x hx => List.mem_of_mem_take hx
      rcases HRES1.out with ⟨hf1, rfl⟩ | ⟨v1, u, hf1, rfl, hO1⟩
      · have HF1 := Lib.hid hf1
        clear hf1 HRES1
        go_wp2_with fail
        refine HU2.out.mono ?_
        rintro e w5 ⟨hB5, hres2⟩
        have he : e = .returned (.tuple #[.slice none 0 0, .bool true, .int .i64 0]) := by
          rcases hres2 with ⟨_, h⟩ | ⟨v, u, h, _⟩
          · exact h
          · exact absurd (HF1.out.mono HMF.out HMX.out) h.1
        subst he
        have HB5 := Lib.hid ((HB2.out.trans (HB34.out.mono HB2.out.size)).trans (hB5.mono (Nat.le_trans HB2.out.size HB34.out.size)))
        clear hB5 hres2
        go_wp2_with fail
        refine (knownP_any _).mono ?_
        rintro e w6 ⟨rfl, hB6⟩
        have HB6 := Lib.hid (HB5.out.trans (hB6.mono HB5.out.size))
        clear hB6
        go_wp2
        go_ret
        exact ⟨rfl, HB6.out⟩
      · obtain ⟨ua, uc, rfl, hUI⟩ := hO1.reads
        have HUI := Lib.hid hUI
        have HFU := Lib.hid hf1
        clear hf1 hO1 hUI HRES1
        go_wp2_with fail
        refine HU2.out.mono ?_
        rintro e w5 ⟨hB5, (⟨hf2, rfl⟩ | ⟨v2, v, hf2, rfl, hO2⟩)⟩
        · have HB5 := Lib.hid ((HB2.out.trans (HB34.out.mono HB2.out.size)).trans (hB5.mono (Nat.le_trans HB2.out.size HB34.out.size)))
          clear hB5 hf2
          go_wp2_with fail
          refine (knownP_any _).mono ?_
          rintro e w6 ⟨rfl, hB6⟩
          have HB6 := Lib.hid (HB5.out.trans (hB6.mono HB5.out.size))
          clear hB6
          go_wp2
          go_ret
          exact ⟨rfl, HB6.out⟩
        · obtain ⟨ya, yc, rfl, hYI⟩ := hO2.reads
          have HB5 := Lib.hid ((HB2.out.trans (HB34.out.mono HB2.out.size)).trans (hB5.mono (Nat.le_trans HB2.out.size HB34.out.size)))
          have HU5 := Lib.hid (HUI.out.below hB5)
          have HY5 := Lib.hid hYI
          have HTF5 := Lib.hid (HTF.out.below hB5 hg4)
          have HR5 := Lib.hid (HR4.out.below hB5)
          have HFV := Lib.hid hf2
          obtain ⟨_, hrv, hvl⟩ := follows_order hf2
          obtain ⟨_, _, hul⟩ := follows_order HFU.out
          have HRV : Hid (∀ x ∈ v, -(V : Int) ≤ x ∧ x ≤ V ∧ x ≠ 0) := fun x hx => by have := hrv x hx; omega
          have hul12 : u.length ≤ 12 := by omega
          have hvl12 : v.length ≤ 12 := by omega
          have HSUB : Hid (∀ x ∈ u, x ∈ v) := fun x hx => follows_more HMF.out HMX.out HFU.out hf2 hx
          have HH := Lib.hid (fun (x : Int) => has_any ya yc v x w5 (by have hmx : maxLen = 9223372036854775807 := rfl; omega) HY5.out)
          have c2 := HTF5.out.c0
          have c3 := HTF5.out.c1
          clear hB5 hf2 hO2 hYI hrv hvl hul c0 c1' HU2
          go_wp2
          go_loopw [22] (fun i wr => ∃ k : Nat, i = .int .i64 k ∧ k ≤ u.length ∧ wr = w5) (fun i _ => u.length - (intOf i).toNat)
          case atStart => exact ⟨0, rfl, Nat.zero_le _, rfl⟩
          case round =>
            obtain ⟨q, rfl, hq, rfl⟩ := hrel
            by_cases hlt : q < u.length
            · obtain ⟨bx, offx, x, rfl, hx, hcx⟩ := HU5.out.at hlt
              have HXU : Hid (decide (x ∈ v) = true) := decide_eq_true (HSUB.out x (List.mem_of_getElem? hx.out))
              have HC := Lib.hid (HH.out x)
              clear hx
              go_wp2_with fail
              refine HC.out.mono ?_
              rintro e w' ⟨rfl, rfl⟩
              rw [HXU.out]
              go_wp2
              go_roundw
              case rel => exact ⟨q + 1, by go_num, by omega, trivial⟩
              case measure => simp [intOf]; omega
            · go_wp2_with fail
              refine (unitsFit hV1 hV2 HFB.out HRV.out (by have hmx : maxLen = 9223372036854775807 := rfl; omega) HR5.out HY5.out (fitL_len _ _) rfl).mono ?_
              rintro e w6 ⟨hB6, hres3⟩
              have he : ∃ v3, e = .returned (.tuple #[v3, .bool false, .int .i64 0]) ∧ Own w6 wr.heap.size v3 v := by
                rcases hres3 with ⟨h, _⟩ | ⟨v3, u3, h, h2, h3⟩
                · exact absurd h (follows_again HFV.out).1
                · rw [follows_unique h (follows_again HFV.out)] at h3; exact ⟨v3, h2, h3⟩
              obtain ⟨v3, rfl, hO3⟩ := he
              obtain ⟨ta, tc, rfl, hTI⟩ := hO3.reads
              have HB6 := Lib.hid (HB5.out.trans (hB6.mono HB5.out.size))
              have HT6 := Lib.hid hTI
              have HY6 := Lib.hid (HY5.out.below hB6)
              clear hB6 hres3 hO3 hTI c2 c3
              go_wp2_with fail
              refine (equal_is rfl rfl (show eqB v v = true from decide_eq_true rfl) _ _ _ _ _ (by have hmx : maxLen = 9223372036854775807 := rfl; omega) HY6.out HT6.out).mono ?_
              rintro e w7 ⟨rfl, hB7⟩
              have HB7 := Lib.hid (HB6.out.trans (hB7.mono HB6.out.size))
              clear hB7
              go_wp2_with fail
              refine (knownP_any _).mono ?_
              rintro e w8 ⟨rfl, hB8⟩
              have HB8 := Lib.hid (HB7.out.trans (hB8.mono HB7.out.size))
              clear hB8
              go_wp2
              go_ret
              exact ⟨rfl, HB8.out⟩
end Go.Proofs.Ytjpjhpokimdblaa
