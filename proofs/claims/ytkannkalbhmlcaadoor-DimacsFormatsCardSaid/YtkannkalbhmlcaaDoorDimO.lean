/-
  The reference's Format.
-/
import Derived.Test.YtkannkalbhmlcaaDoorDimR
import Derived.Test.YtkannkalbhmlcaaDoorDimY
import Derived.Deep.RegionHeldLaw
import Derived.Deep.DrawnRows
import Derived.Lib.ConvBytes
import Derived.Lib.BufSteps
namespace Go.Proofs.YtkannkalbhmlcaaDoor
open Go.RowKit Go.Lib
open Go.RowKit (Below)

set_option maxRecDepth 100000 in
set_option maxHeartbeats 4000000 in
theorem refFormat_any (V : Int) (a : Option Addr) (c : Nat) (zss : List (List Int)) (w : World) (hm : zss.length ≤ maxLen) (hA : AllLen zss) (hw : ∀ z ∈ zss, ∀ x ∈ z, I64 x) (h : RowsR .i64 w a zss) (he : Env w) :
    Calls Tryd.prog 14 #[.agg #[.int .i64 V, .slice a zss.length c]] w (FmtPost w V zss) := by
  have HE := Lib.hid he
  have HW := Lib.hid hw
  have HA := Lib.hid hA
  have HM := Lib.hid hm
  obtain ⟨r, hr⟩ : ∃ r, checkF V zss = r := ⟨_, rfl⟩
  have HC := Lib.hid hr
  have HR := Lib.hid (h.alloc (.cells #[.int .i64 V, .slice a zss.length c] 24))
  have HB := Lib.hid (boxed w (.cells #[.int .i64 V, .slice a zss.length c] 24))
  have HF := Lib.hid (Two.new w (.int .i64 V) (.slice a zss.length c))
  have hf0 := HF.out.c0
  have hf1 := HF.out.c1
  clear h he hw hA hm
  by_cases hc : r = 0
  · subst hc
    obtain ⟨hV, hn, hz⟩ := checkF_fits hr
    clear hr
    go_enter Tryd.func14, Tryd.ntmps14
    go_wp2_with fail
    refine (refCheckF_is rfl HC.out _ _ _ HM.out HA.out HR.out).mono ?_
    rintro e w1 ⟨rfl, hB1⟩
    have HF1 := Lib.hid (HF.out.below hB1 HF.out.lt)
    have HR1 := Lib.hid (HR.out.below hB1)
    have HB1 := Lib.hid (HB.out.trans (hB1.mono HB.out.size))
    have hlt1 := HF1.out.lt
    clear hB1 HB HR HF hf0 hf1
    have HH : Hid (∀ w', Hid (Below w1.heap.size w1 w') → w'.cell? ⟨w.heap.size, 0, none⟩ = some (.int .i64 V) ∧ w'.cell? ⟨w.heap.size, 1, none⟩ = some (.slice a zss.length c) ∧ Hid (Below w1.heap.size w1 w')) :=
      fun w' hb => ⟨(HF1.out.below hb.out hlt1).c0, (HF1.out.below hb.out hlt1).c1, hb⟩
    have HD : Hid (Below w1.heap.size w1 w1.drew) := (Below.refl _ _).drew
    have K1 : Hid (∀ x W, Hid (-9223372036854775808 ≤ x ∧ x ≤ 9223372036854775807) → Hid (Below w1.heap.size w1 W) → Calls Tryd.prog 25 #[.int .i64 x] W fun e w' => e = .returned (.string ⟨(itoa x).toArray⟩) ∧ Hid (Below w1.heap.size w1 w') ∧ Hid (Below W.heap.size W w')) := fun x W hx hW =>
      (Tryd.strconv_Itoa x hx.out.1 hx.out.2 W (HE.out.below (HB1.out.trans (hW.out.mono HB1.out.size))).tab).mono fun e w' ⟨he, k, os, hw'⟩ => ⟨he, by subst hw'; exact ⟨hW.out.trans (below_grow _ _ hW.out.size k os), below_grow _ _ (Nat.le_refl _) k os⟩⟩
    have hil := itoa_length_le V (by omega) (by omega)
    have hil2 := itoa_length_le (zss.length : Int) (by omega) (by omega)
    obtain ⟨sV, hsV⟩ : ∃ s, str (itoa V) = s := ⟨_, rfl⟩
    obtain ⟨sN, hsN⟩ : ∃ s, str (itoa (zss.length : Int)) = s := ⟨_, rfl⟩
    have KV : Hid (∀ W, Hid (Below w1.heap.size w1 W) → Calls Tryd.prog 25 #[.int .i64 V] W fun e w' => e = .returned (.string sV) ∧ Hid (Below w1.heap.size w1 w')) := fun W hW => by
      rw [← hsV]; exact (K1.out V W ⟨by omega, by omega⟩ hW).mono fun e w' h => ⟨h.1, h.2.1⟩
    have KN : Hid (∀ W, Hid (Below w1.heap.size w1 W) → Calls Tryd.prog 25 #[.int .i64 (zss.length : Int)] W fun e w' => e = .returned (.string sN) ∧ Hid (Below w1.heap.size w1 w')) := fun W hW => by
      rw [← hsN]; exact (K1.out _ W ⟨by omega, by omega⟩ hW).mono fun e w' h => ⟨h.1, h.2.1⟩
    have hzV : sV.size ≤ 21 := by rw [← hsV, str_size]; exact hil
    have hzN : sN.size ≤ 21 := by rw [← hsN, str_size]; exact hil2
    have hy1 : ¬ (9223372036854775807 < 6 + sV.size) := by omega
    have hy2 : ¬ (9223372036854775807 < 6 + sV.size + 1) := by omega
    have hy3 : ¬ (9223372036854775807 < 6 + sV.size + 1 + sN.size) := by omega
    have hy4 : ¬ (9223372036854775807 < 6 + sV.size + 1 + sN.size + 1) := by omega
    have HBW : Hid (∀ W S, Hid (Below w1.heap.size w1 W) → Hid (Below w1.heap.size w1 (bytesWorld W 5 S))) := fun W S hW => hW.out.trans ((bytesBelow W 5 S).mono hW.out.size)
    have HSV := Lib.hid hsV
    have HSN := Lib.hid hsN
    clear hsV hsN hil hil2
    have kc := fun (w : World) (s : ByteArray) => Lib.run_convert_string_bytes (P := Tryd.prog) w 9 37 5 s Tryd.underlying9 Tryd.underlying37 Tryd.underlying5
    go_wp2_with fail
    go_region_held_law (fun w' => w'.cell? ⟨w.heap.size, 0, none⟩ = some (.int .i64 V) ∧ w'.cell? ⟨w.heap.size, 1, none⟩ = some (.slice a zss.length c) ∧ Hid (Below w1.heap.size w1 w')) (first | exact HH.out _ HD | exact HH.out _ (by assumption) | exact HH.out _ (HBW.out _ _ (by assumption)))
      (first | (go_at_call 25; ((with_reducible refine (KV.out _ ?_).mono ?_)); (· assumption); rintro e w' ⟨rfl, hb⟩) | (go_at_call 25; ((with_reducible refine (KN.out _ ?_).mono ?_)); (· assumption); rintro e w' ⟨rfl, hb⟩))
    have hSz : (⟨#[112, 32, 99, 110, 102, 32]⟩ ++ sV ++ ⟨#[32]⟩ ++ sN ++ ⟨#[10]⟩ : ByteArray).size = 6 + sV.size + 1 + sN.size + 1 := by
      simp only [ByteArray.size_append]; rfl
    have hS8 : W8 (⟨#[112, 32, 99, 110, 102, 32]⟩ ++ sV ++ ⟨#[32]⟩ ++ sN ++ ⟨#[10]⟩ : ByteArray) = preT V zss 0 := by
      rw [← HSV.out, ← HSN.out]
      simp [W8, str, preT, headT]
    have hLn := line_of_bytes w' w1.heap.size (⟨#[112, 32, 99, 110, 102, 32]⟩ ++ sV ++ ⟨#[32]⟩ ++ sN ++ ⟨#[10]⟩ : ByteArray) hb.out.size (by rw [hSz]; omega)
    rw [hS8, hSz] at hLn
    have HW2 := HBW.out w' (⟨#[112, 32, 99, 110, 102, 32]⟩ ++ sV ++ ⟨#[32]⟩ ++ sN ++ ⟨#[10]⟩ : ByteArray) hb
    generalize bytesWorld w' 5 (⟨#[112, 32, 99, 110, 102, 32]⟩ ++ sV ++ ⟨#[32]⟩ ++ sN ++ ⟨#[10]⟩ : ByteArray) = w2 at *
    have hln : 6 + sV.size + 1 + sN.size + 1 = (preT V zss 0).length := by rw [← hS8, w8_len, hSz]
    rw [hln] at hLn ⊢
    obtain ⟨g2, cap2, hv2, hL2⟩ := hLn
    have hl2 : (preT V zss 0).length ≤ 60 := by omega
    injection hv2 with e1 _ e3
    injection e1 with e1
    injection e1 with e1
    rw [e1, e3] at *
    have HL2 := Lib.hid hL2
    clear hL2 HH HD KV KN hy1 hy2 hy3 hy4 HBW HSV HSN hS8 hSz hln kc hb
    go_wp2_with fail
    go_loopw [5, 6] (fun v i wr => ∃ k g cap : Nat, k ≤ zss.length ∧ i = .int .i64 k ∧ v = .slice (some ⟨g, 0, none⟩) (preT V zss k).length cap ∧ (preT V zss k).length ≤ 200000 ∧ Hid (LineIn wr w1.heap.size g cap (preT V zss k)) ∧ Hid (Below w1.heap.size w1 wr)) (fun _ i _ => zss.length - (intOf i).toNat)
    case atStart => exact ⟨0, g2, cap2, Nat.zero_le _, rfl, rfl, by omega, HL2, HW2⟩
    case round =>
      clear HL2 HW2
      obtain ⟨k, g, cap, hk, rfl, rfl, hpl, HL, HB⟩ := hrel
      have q0 := (HF1.out.below HB.out hlt1).c0
      have q1 := (HF1.out.below HB.out hlt1).c1
      have HPL := Lib.hid (preT_le V zss k)
      have HPN := fun z => Lib.hid (preT_next (V := V) (zss := zss) (k := k) (z := z))
      have HPA := Lib.hid (preT_all (V := V) (zss := zss) (k := k))
      obtain ⟨P, hP⟩ : ∃ P, preT V zss k = P := ⟨_, rfl⟩
      rw [hP] at hpl HL HPL HPA ⊢
      have HPN : Hid (∀ z, zss[k]? = some z → preT V zss (k + 1) = P ++ clauseT z) := fun z hz => by rw [← hP]; exact (HPN z).out hz
      clear hP
      by_cases hgo : k < zss.length ∧ P.length ≤ 65536
      · obtain ⟨hlt, hle⟩ := hgo
        have hlt' : (k : Int) < (zss.length : Int) := by omega
        have hle' : (P.length : Int) ≤ 65536 := by omega
        obtain ⟨b, off, aj, cj, zs, rfl, hbs, HZ, hcz, HK⟩ := HR1.out.at hlt
        have hzm := List.mem_of_getElem? HZ.out
        have hzl := hz zs hzm
        have HZW := Lib.hid (HW.out zs hzm)
        have hcw := (HB.out.cell (p := ⟨b, off + k, none⟩) hbs).trans hcz
        have HPN2 := Lib.hid (HPN.out zs HZ.out)
        clear hzm HPN HPL HPA
        obtain ⟨wo, rfl⟩ : ∃ wo : World, wo = wr := ⟨_, rfl⟩
        go_wp2_with fail
        go_loopw [5, 7] (fun v j wr => ∃ (m g cap : Nat) (Z : List UInt8), m ≤ zs.length ∧ j = .int .i64 m ∧ v = .slice (some ⟨g, 0, none⟩) Z.length cap ∧ Hid (Z = P ++ litsT (zs.take m)) ∧ Hid (LineIn wr w1.heap.size g cap Z) ∧ Hid (Below w1.heap.size w1 wr)) (fun _ j _ => zs.length - (intOf j).toNat)
        case atStart => exact ⟨0, g, cap, P, Nat.zero_le _, rfl, rfl, by simp [Hid, litsT], HL, HB⟩
        case round =>
          clear HL HB q0 q1 hcw
          obtain ⟨m, g, cap, Z, hmz, rfl, rfl, HZd, HL, HB⟩ := hrel
          have q0 := (HF1.out.below HB.out hlt1).c0
          have q1 := (HF1.out.below HB.out hlt1).c1
          have hcw := (HB.out.cell (p := ⟨b, off + k, none⟩) hbs).trans hcz
          have hll : Z.length ≤ 160000 := by
            have h1 := litsT_le (zs.take m) (fun x hx => HZW.out x (List.mem_of_mem_take hx))
            rw [List.length_take] at h1
            rw [HZd.out, List.length_append]; omega
          by_cases hlm : m < zs.length
          · rcases HK.out.below HB.out with h0 | ⟨b2, off2, rfl, hb2, hc2⟩
            · omega
            have hce := hc2 m hlm
            obtain ⟨x, hx⟩ : ∃ x, zs[m]? = some x := ⟨_, List.getElem?_eq_getElem hlm⟩
            have hgx : zs.getD m 0 = x := by rw [List.getD_eq_getElem?_getD, hx]; rfl
            rw [hgx] at hce
            have hxi := HZW.out x (List.mem_of_getElem? hx)
            have HLS := Lib.hid (litsT_snoc hx)
            have hil := itoa_length_le x hxi.1 hxi.2
            obtain ⟨sx, hsx⟩ : ∃ s, str (itoa x) = s := ⟨_, rfl⟩
            have hsz : sx.size ≤ 21 := by rw [← hsx, str_size]; exact hil
            have HX := Lib.hid hsx
            have hm1 : (m : Int) < (zs.length : Int) := by omega
            have HXI : Hid (-9223372036854775808 ≤ x ∧ x ≤ 9223372036854775807) := hxi
            clear hc2 hgx hx hil hsx hxi
            go_wp2_with fail
            refine (K1.out x _ HXI HB).mono ?_
            rintro e w4 ⟨rfl, HB4, HC4⟩
            have HL4 := Lib.hid (HL.out.below HC4.out)
            have hw4 := HB4.out.size
            have HE8 : Hid (Z ++ W8 sx ++ [32] = P ++ litsT (zs.take (m + 1))) := by
              unfold Hid; rw [HLS.out, ← HX.out, w8_str, HZd.out]; simp
            have hse : (⟨(itoa x).toArray⟩ : ByteArray) = sx := HX.out
            rw [hse]
            clear hse HC4 HL HB hce hcw q0 q1
            go_wp2_with (at_builtin; refine wpList_line_string rfl _ _ rfl ⟨g, cap, rfl, HL4.out⟩ hw4 rfl sx rfl ?d1 ?_)
            case d1 => omega
            intro v5 w5 hl5 hb5
            have hlen5 : (Z ++ W8 sx).length ≤ 160021 := by rw [List.length_append, w8_len]; omega
            obtain ⟨Z5, hZ5⟩ : ∃ Z5, Z ++ W8 sx = Z5 := ⟨_, rfl⟩
            rw [hZ5] at hl5 hlen5
            have HE9 : Hid (Z5 ++ [32] = P ++ litsT (zs.take (m + 1))) := by unfold Hid; rw [← hZ5]; exact HE8.out
            obtain ⟨g5, cap5, rfl, hL5⟩ := hl5
            have HL5 := Lib.hid hL5
            have HB5 := Lib.hid (HB4.out.trans hb5)
            have hw5 := HB5.out.size
            clear hL5 hb5 HL4 HB4 hZ5 HE8
            go_wp2_with (at_builtin; refine wpList_line_byte rfl _ _ rfl ⟨g5, cap5, rfl, HL5.out⟩ hw5 rfl 32 _ rfl rfl ?d2 ?_)
            case d2 => omega
            intro v6 w6 hl6 hb6
            obtain ⟨Z6, hZ6⟩ : ∃ Z6, Z5 ++ [32] = Z6 := ⟨_, rfl⟩
            rw [hZ6] at hl6
            have HE10 : Hid (Z6 = P ++ litsT (zs.take (m + 1))) := by unfold Hid; rw [← hZ6]; exact HE9.out
            obtain ⟨g6, cap6, rfl, hL6⟩ := hl6
            have HL6 := Lib.hid hL6
            have HB6 := Lib.hid (HB5.out.trans hb6)
            clear hL6 hb6 HL5 HB5 hZ6 HE9
            go_wp2
            go_roundw
            case rel => exact ⟨m + 1, g6, cap6, Z6, by omega, by go_num, rfl, HE10, HL6, HB6⟩
            case measure => simp [intOf]; omega
          · have hml : m = zs.length := by omega
            have HZe : Hid (Z ++ W8 ⟨#[48, 10]⟩ = preT V zss (k + 1)) := by
              unfold Hid; rw [HPN2.out, HZd.out, hml, List.take_length, clauseT_eq]; simp [W8]
            have hm1 : (zs.length : Int) ≤ (m : Int) := by omega
            have hw4 := HB.out.size
            clear hml
            go_wp2_with (at_builtin; refine wpList_line_string rfl _ _ rfl ⟨g, cap, rfl, HL.out⟩ hw4 rfl ⟨#[48, 10]⟩ rfl ?d3 ?_)
            case d3 => show _ + 2 ≤ _; omega
            intro v5 w5 hl5 hb5
            have hlen5 : (Z ++ W8 ⟨#[48, 10]⟩).length ≤ 200000 := by rw [List.length_append]; show _ + 2 ≤ _; omega
            rw [HZe.out] at hl5 hlen5
            obtain ⟨g5, cap5, rfl, hL5⟩ := hl5
            have HL5 := Lib.hid hL5
            have HB5 := Lib.hid (HB.out.trans hb5)
            clear hL5 hb5 HL HB
            go_wp2
            go_roundw
            case rel => exact ⟨k + 1, g5, cap5, by omega, by go_num, rfl, hlen5, HL5, HB5⟩
            case measure => simp [intOf]; omega
      · have HBw := Lib.hid (HB1.out.trans (HB.out.mono HB1.out.size))
        by_cases hbig : 65536 < P.length
        · have HFM := Lib.hid (fmt_long HC.out (Nat.lt_of_lt_of_le hbig HPL.out))
          have hb1 : (65536 : Int) < (P.length : Int) := by omega
          by_cases hlt : k < zss.length
          · have hlt' : (k : Int) < (zss.length : Int) := by omega
            clear hgo
            go_wp2
            go_ret2
            exact fmtPost_of (S := []) HFM.out.1 HFM.out.2 HBw.out
          · have hlt' : (zss.length : Int) ≤ (k : Int) := by omega
            clear hgo
            go_wp2
            go_ret2
            exact fmtPost_of (S := []) HFM.out.1 HFM.out.2 HBw.out
        · have hlt : ¬ k < zss.length := fun h => hgo ⟨h, by omega⟩
          have hlt' : (zss.length : Int) ≤ (k : Int) := by omega
          have hb1 : (P.length : Int) ≤ 65536 := by omega
          have HPB := Lib.hid (HPA.out hlt)
          have HFM := Lib.hid (fmt_ok HC.out (by rw [← HPB.out]; exact hbig))
          have hcv := run_convert_bytes_back (P := Tryd.prog) wr 37 9 5 ⟨g, 0, none⟩ cap P Tryd.underlying37 Tryd.underlying5 Tryd.underlying9 (fun j hj => by
            rw [Addr.add_lit, Nat.zero_add]; exact HL.out.cells j _ (by simp [byteCells, hj]))
          clear hgo hbig hlt
          go_wp2
          go_ret2
          exact fmtPost_of (S := P) HFM.out.1 (by rw [HFM.out.2, HPB.out]) HBw.out
  · have HFM := Lib.hid (fmt_bad hr hc)
    have e1 : (r != 0) = true := by simp [hc]
    clear hr hc
    go_enter Tryd.func14, Tryd.ntmps14
    go_wp2_with fail
    refine (refCheckF_is rfl HC.out _ _ _ HM.out HA.out HR.out).mono ?_
    rintro e w1 ⟨rfl, hB1⟩
    have HB1 := Lib.hid (HB.out.trans (hB1.mono HB.out.size))
    clear hB1
    go_wp2
    go_ret2
    exact fmtPost_of (S := []) HFM.out.1 HFM.out.2 HB1.out
end Go.Proofs.YtkannkalbhmlcaaDoor
