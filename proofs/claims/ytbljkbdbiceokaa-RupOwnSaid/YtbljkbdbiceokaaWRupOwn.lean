/-
  RupOwn: a clause of the formula is implied, and what contains it; a clause with a literal and its negative always.
-/
import Derived.Test.YtbljkbdbiceokaaRupT
import Derived.BigQuiet
import Derived.Deep.RegionHeld3
import Derived.Deep.DrawnRows
namespace Go.Proofs.Ytbljkbdbiceokaa
open Go.RowKit Go.Lib
open Go.RowKit (Below)

set_option maxRecDepth 100000 in
set_option maxHeartbeats 8000000 in
theorem rupOwn_walk (w : World) (n : Int) (hn : (Lit.int .u8 n).wf = true) (a : Option Addr) (c : Nat) (zss : List (List Int)) (hR : RowsR .i8 w a zss) (hA : AllLen zss) (hm : zss.length ≤ maxLen) (hwf : ∀ z ∈ zss, ∀ x ∈ z, (Lit.int .i8 x).wf = true)
    (b : Option Addr) (d : Nat) (qs : List Int) (hQ : KI .i8 w b qs) (hqw : ∀ n ∈ qs, (Lit.int .i8 n).wf = true) (hqm : qs.length ≤ maxLen) :
    Calls Try.prog 8 #[.int .u8 n, .slice a zss.length c, .slice b qs.length d] w fun e w' => e = .returned (.bool true) ∧ Below w.heap.size w w' := by
  obtain ⟨hn0, hn1⟩ := u8_range hn
  obtain ⟨V, hV⟩ : ∃ V : Nat, 1 + n % 12 = (V : Int) := ⟨(1 + n % 12).toNat, by omega⟩
  have hV1 : 1 ≤ V := by omega
  have hV2 : V ≤ 12 := by omega
  have HF := Lib.hid (fit_any n V hn0 hn1 hV a c zss w hR hA hm hwf)
  have HQ := Lib.hid hQ
  have HQW := Lib.hid hqw
  have hmx : maxLen = 9223372036854775807 := rfl
  have hqmI : (qs.length : Int) ≤ 9223372036854775807 := by omega
  obtain ⟨i0, hi, hz0, hz1, hz2⟩ := info_parts Try.info3
  clear hV hR hA hm hwf hn hn0 hn1 hQ hqw hqm
  go_enter Try.func8, Try.ntmps8
  go_wp2_with fail
  refine HF.out.mono ?_
  rintro e w1 (⟨hf, rfl, hB1⟩ | ⟨hf, a1, c1, rfl, _, _, hR1, hB1⟩)
  · have HB1 := Lib.hid (hB1.alloc hB1.size (.cells #[.int .i64 0, .slice none 0 0] 26))
    clear hB1 hf
    go_wp2_with fail
    refine (knownR_any _).mono ?_
    rintro e w2 ⟨rfl, hB2⟩
    have HB2 := Lib.hid (HB1.out.trans (hB2.mono HB1.out.size))
    clear hB2
    go_wp2
    go_ret
    exact ⟨rfl, HB2.out⟩
  · have HL := Lib.hid (fit_ok hV1 hV2 hf)
    have HLl := Lib.hid (fitL_len (V : Int) zss)
    have hzl : zss.length ≤ 30 := (fitB_parts hf).1
    have HR1 := Lib.hid (hR1.alloc (.cells #[.int .i64 V, .slice a1 zss.length c1] 26))
    have HB1 := Lib.hid (hB1.alloc hB1.size (.cells #[.int .i64 V, .slice a1 zss.length c1] 26))
    have HT := Lib.hid (Two.new w1 (.int .i64 V) (.slice a1 zss.length c1))
    have HQ1 := Lib.hid ((KI.below HQ.out (by exact hB1)).alloc (.cells #[.int .i64 V, .slice a1 zss.length c1] 26))
    generalize fitL (V : Int) zss = L at HL HLl HR1
    clear hB1 hR1 hf HF
    by_cases h20 : 20 < qs.length
    · have h20' : (20 : Int) < (qs.length : Int) := by omega
      go_wp2_with fail
      refine (knownR_any _).mono ?_
      rintro e w3 ⟨rfl, hB3⟩
      have HB3 := Lib.hid (HB1.out.trans (hB3.mono HB1.out.size))
      clear hB3
      go_wp2
      go_ret
      exact ⟨rfl, HB3.out⟩
    have h20' : ¬ (20 : Int) < (qs.length : Int) := by omega
    have hg2 : w1.heap.size < (w1.alloc (.cells #[.int .i64 V, .slice a1 zss.length c1] 26)).heap.size := by simp
    go_wp2
    clear h20'
    generalize w1.alloc (.cells #[.int .i64 V, .slice a1 zss.length c1] 26) = w2 at HR1 HB1 HT HQ1 hg2 ⊢
    have hVI : (V : Int) ≤ 12 := by omega
    go_loopw [9, 10, 11] (fun cv i _ wr => ∃ m : Nat, i = .int .i64 m ∧ m ≤ qs.length ∧ Hid (Own wr w2.heap.size cv (fitZ V (qs.take m))) ∧ Hid (Below w2.heap.size w2 wr)) (fun _ i _ _ => qs.length - (intOf i).toNat)
    case atStart => exact ⟨0, rfl, Nat.zero_le _, Own.nil _ _, Below.refl _ _⟩
    case round =>
      obtain ⟨m, rfl, hm2, HO, HB⟩ := hrel
      have HTr := Lib.hid (HT.out.below HB.out hg2)
      have c0 := HTr.out.c0
      have hsz : w2.heap.size ≤ wr.heap.size := HB.out.size
      have hle := fitZ_le (V : Int) (qs.take m)
      have hle2 : (qs.take m).length ≤ m := List.length_take_le _ _
      by_cases hml : m < qs.length
      · obtain ⟨b2, off2, x, rfl, HX, hcx⟩ := (KI.below HQ1.out HB.out).at hml
        have hx := i8_range (HQW.out _ (List.mem_of_getElem? HX.out))
        have hx1 := hx.1
        have hx2 := hx.2
        have e1 : IntKind.i64.wrap x = x := IntWalk.i64_in _ (by omega)
        have e2 : IntKind.i64.wrap ((V : Int) + 1) = (V : Int) + 1 := IntWalk.i64_in _ (by omega)
        have hV3 : (((V : Int) + 1 : Int) == 0) = false := by rw [beq_eq_false_iff_ne]; omega
        clear hx
        by_cases hv : x.tmod ((V : Int) + 1) = 0
        · have hO : Hid (Own wr w2.heap.size u9 (fitZ V (qs.take (m + 1)))) := by unfold Hid; rw [fitZ_drop HX.out hv]; exact HO.out
          have e3 : (x.tmod ((V : Int) + 1) != 0) = false := by simp [hv]
          have e4 : (x.tmod ((V : Int) + 1) == 0) = true := by simp [hv]
          clear hv HO
          go_wp2
          go_quiet (fail)
          go_wp2
          go_roundw
          case rel => exact ⟨m + 1, by go_num, by omega, hO.out.quiet ⟨_, rfl⟩, HB.out.trans (quietBelow ⟨_, rfl⟩ _)⟩
          case measure => simp [intOf]; omega
        · have hO := fitZ_keep HX.out hv
          have HK2 := Lib.hid hO
          have e3 : (x.tmod ((V : Int) + 1) != 0) = true := by simp [hv]
          have e4 : (x.tmod ((V : Int) + 1) == 0) = false := by simp [hv]
          clear hv hO
          go_wp2
          go_quiet (fail)
          go_wp2_with (at_builtin; refine wpList_append_own _ rfl _ _ 23 rfl w2.heap.size 3 i0 (.int .i64 0) 1 8 Try.underlying23 hi hz0 hz1 hz2 rfl (by decide) _ _ _ rfl (World.ownsRow.alloc (HO.out.quiet ⟨_, rfl⟩) _) ⟨wr.heap.size, 0, none⟩ 1 1 [.int .i64 (x.tmod ((V : Int) + 1))] rfl rfl (one_new (by simp)) one_int ?c3 ?c4 ?c5 ?_)
          case c3 => omega
          case c4 => omega
          case c5 => simp; omega
          intro v' w3 hown' hgrow _
          have R1 := Lib.hid (Own.of (zs := fitZ V (qs.take (m + 1))) hown' (by rw [HK2.out]; simp) (by rw [HK2.out]; simp))
          have R2 := Lib.hid (Own.below (HO.out.quiet ⟨_, rfl⟩) (HB.out.trans (quietBelow ⟨_, rfl⟩ _)) hsz hgrow)
          clear hown' hgrow HO HB
          go_wp2
          go_roundw
          case rel => exact ⟨m + 1, by go_num, by omega, R1, R2⟩
          case measure => simp [intOf]; omega
      · have htk : qs.take m = qs := List.take_of_length_le (by omega)
        rw [htk] at HO hle
        have HCin : Hid (InV V (fitZ (V : Int) qs)) := fitZ_range V (by omega) _
        have hcl : (fitZ (V : Int) qs).length ≤ 20 := by omega
        generalize fitZ (V : Int) qs = C at HO HCin hcl
        obtain ⟨ca, cc, rfl, hCI, _⟩ := HO.out.parts
        obtain ⟨w3, rfl⟩ : ∃ w3 : World, w3 = wr := ⟨_, rfl⟩
        have HC3 := Lib.hid hCI
        have HR3 := Lib.hid (HR1.out.below HB.out)
        have HB3 := Lib.hid (HB1.out.trans (HB.out.mono HB1.out.size))
        have HT3 := HTr
        have hg3 : w1.heap.size < w3.heap.size := by omega
        clear hCI htk hle hle2 HO HB c0 HQ1 HT HR1 HB1 HTr HQ HQW hsz
        go_wp2
        go_loopw [12, 13, 14, 15, 16] (fun i _ _ _ _ wr => ∃ q : Nat, i = .int .i64 q ∧ q ≤ zss.length ∧ Hid (Below w3.heap.size w3 wr)) (fun i _ _ _ _ _ => zss.length - (intOf i).toNat)
        case atStart => exact ⟨0, rfl, Nat.zero_le _, Below.refl _ _⟩
        case round =>
          obtain ⟨q, rfl, hq, HW⟩ := hrel
          have HT4 := Lib.hid (HT3.out.below HW.out hg3)
          have HR4 := Lib.hid (HR3.out.below HW.out)
          have HC4 := Lib.hid (HC3.out.below HW.out)
          have c0 := HT4.out.c0
          have c1' := HT4.out.c1
          by_cases hlq : q < zss.length
          · obtain ⟨bb, off, aj, cj, z, rfl, hbs, HZ, hc, HK, hz1', hz2'⟩ := HR4.out.atC (j := q) (by rw [HLl.out]; omega)
            have hzm : z ∈ L := List.mem_of_getElem? HZ.out
            have hzl' : z.length ≤ 20 := HL.out.2.1 z hzm
            obtain ⟨w4, rfl⟩ : ∃ w4 : World, w4 = wr := ⟨_, rfl⟩
            have HIM : Hid (∀ W za zc (y : List Int) k, y.length = k → y.length ≤ 40 → InV V y → (∀ x ∈ z, x ∈ y) → Hid (Below w4.heap.size w4 W) → IntsR W za y → y.length ≤ zc → zc ≤ maxLen → Calls Try.prog 14 #[.agg #[.int .i64 V, .slice (some ⟨bb, off, none⟩) zss.length c1], .slice za k zc] W fun e w' => e = .returned (.tuple #[.bool true, .int .i64 0]) ∧ Hid (Below w4.heap.size w4 w')) := fun W za zc y k hk hy hin hs hW hI h1 h2 => by
              refine (impliedOf hV2 HL.out (by omega) hin (HR4.out.below hW.out) hI h1 h2 HLl.out hk).mono ?_
              rintro e w' ⟨hb, v, rfl, hv⟩
              rw [hv.2 (fails_sub hzm hs)]
              exact ⟨rfl, hW.out.trans (hb.mono hW.out.size)⟩
            have HSS : Hid (∀ W, Hid (Below w4.heap.size w4 W) → W.cell? ⟨w1.heap.size, 0, none⟩ = some (.int .i64 V) ∧ W.cell? ⟨w1.heap.size, 1, none⟩ = some (.slice (some ⟨bb, off, none⟩) zss.length c1) ∧ W.cell? ⟨bb, off + q, none⟩ = some (.slice aj z.length cj) ∧ Hid (Below w4.heap.size w4 W)) := fun W hW => ⟨(HT4.out.below hW.out HT4.out.lt).c0, (HT4.out.below hW.out HT4.out.lt).c1, (hW.out.cell (p := ⟨bb, off + q, none⟩) hbs).trans hc, hW⟩
            have HD : Hid (Below w4.heap.size w4 w4.drew) := (Below.refl _ _).drew
            have HZV : Hid (InV V z) := HL.out.2.2 z hzm
            have HKA : Hid (∀ W, Hid (Below w4.heap.size w4 W) → Calls Try.prog 14 #[.agg #[.int .i64 V, .slice (some ⟨bb, off, none⟩) zss.length c1], .slice aj z.length cj] W fun e w' => e = .returned (.tuple #[.bool true, .int .i64 0]) ∧ Hid (Below w4.heap.size w4 w')) := fun W hW =>
              HIM.out W aj cj z z.length rfl (by omega) HZV.out (fun x hx => hx) hW ((KI.below HK.out (by exact hW.out)).ints) hz1' hz2'
            have HKB : Hid (∀ W, Hid (Below w4.heap.size w4 W) → Calls Try.prog 15 #[.slice ca C.length cc] W fun e w' => ∃ ya yc, e = .returned (.slice ya C.length yc) ∧ Hid (Own w' w4.heap.size (.slice ya C.length yc) C) ∧ Hid (Below w4.heap.size w4 w')) := fun W hW =>
              (copyInts_any ca cc C W (by omega) (HC4.out.below hW.out)).mono fun e w' ⟨v, he, hO, hb⟩ => by
                have hO' := ownMono hO hW.out.size
                obtain ⟨ya, yc, rfl, _⟩ := hO.reads
                exact ⟨ya, yc, he, hO', hW.out.trans (hb.mono hW.out.size)⟩
            have HKC : Hid (∀ W ya yc, Hid (Below w4.heap.size w4 W) → Own W w4.heap.size (.slice ya (C.length + z.length) yc) (C ++ z) → Calls Try.prog 14 #[.agg #[.int .i64 V, .slice (some ⟨bb, off, none⟩) zss.length c1], .slice ya (C.length + z.length) yc] W fun e w' => e = .returned (.tuple #[.bool true, .int .i64 0]) ∧ Hid (Below w4.heap.size w4 w')) := fun W ya yc hW hO => by
              obtain ⟨ya', yc', he, hI, _, h1, h2⟩ := hO.parts
              injection he with e1 _ e3
              subst e1 e3
              exact HIM.out W ya yc (C ++ z) (C.length + z.length) (by simp) (by simp; omega) (HCin.out.append HZV.out) (fun x hx => List.mem_append_right _ hx) hW hI h1 h2
            have HKZ : Hid (∀ W, Hid (Below w4.heap.size w4 W) → IntsR W aj z) := fun W hW => (KI.below HK.out (by exact hW.out)).ints
            have HAP : Hid (∀ W ya yc v' w', Hid (Below w4.heap.size w4 W) → w'.ownsRow w4.heap.size 3 1 v' (C.length + z.length) (C.map (Value.int .i64) ++ z.map (Value.int .i64)) → W.grownBy w' (Value.slice ya C.length yc).ownBlock → Hid (Own W w4.heap.size (.slice ya C.length yc) C) → ∃ ga gc, v' = .slice ga (C.length + z.length) gc ∧ Own w' w4.heap.size (.slice ga (C.length + z.length) gc) (C ++ z) ∧ Hid (Below w4.heap.size w4 w')) := fun W ya yc v' w' hW hown hgrow hO => by
              have h1 : Own w' w4.heap.size v' (C ++ z) := Own.of hown (by simp) (by simp)
              obtain ⟨ga, gc, rfl, _⟩ := h1.reads
              rw [List.length_append] at h1 ⊢
              exact ⟨ga, gc, rfl, h1, hW.out.grown hgrow hW.out.size (fun k hk => (hO.out.lt k hk).1)⟩
            have HN : Hid (C.length + z.length ≤ maxLen ∧ (C.length + z.length) * 8 ≤ 140737488355328) := ⟨by omega, by omega⟩
            clear hzm hz1' hz2' HIM
            go_wp2
            go_cut [13, 14] from 62 to 70 (fun s13 s14 wc => s13 = .bool true ∧ s14 = .int .i64 0 ∧ Hid (Below w4.heap.size w4 wc))
            case first =>
              go_region_held3 (fun W => W.cell? ⟨w1.heap.size, 0, none⟩ = some (.int .i64 V) ∧ W.cell? ⟨w1.heap.size, 1, none⟩ = some (.slice (some ⟨bb, off, none⟩) zss.length c1) ∧ W.cell? ⟨bb, off + q, none⟩ = some (.slice aj z.length cj) ∧ Hid (Below w4.heap.size w4 W)) (first | exact HSS.out _ HD | exact HSS.out _ (by assumption))
                (((with_reducible refine (HKA.out _ ?_).mono ?_); (· assumption); rintro e w' ⟨rfl, hb⟩))
              all_goals (go_wp2_with fail; go_meet; exact ⟨rfl, rfl, hb⟩)
            case rest =>
              obtain ⟨w5, rfl⟩ : ∃ w5 : World, w5 = wc := ⟨_, rfl⟩
              obtain ⟨rfl, rfl, HB5⟩ := hcut
              obtain ⟨d0, d1, d2, _⟩ := HSS.out _ HB5
              have HD5 : Hid (Below w4.heap.size w4 w5.drew) := HB5.out.drew
              have hs5 : ∀ W, Hid (Below w4.heap.size w4 W) → w4.heap.size ≤ W.heap.size := fun W h => h.out.size
              have HS5 := Lib.hid hs5
              clear hc HKA HD c0 c1' hs5
              go_wp2
              go_cut [15, 16] from 72 to 83 (fun s15 s16 wc => s15 = .bool true ∧ s16 = .int .i64 0 ∧ Hid (Below w4.heap.size w4 wc))
              case first =>
                go_region_held3 (fun W => W.cell? ⟨w1.heap.size, 0, none⟩ = some (.int .i64 V) ∧ W.cell? ⟨w1.heap.size, 1, none⟩ = some (.slice (some ⟨bb, off, none⟩) zss.length c1) ∧ W.cell? ⟨bb, off + q, none⟩ = some (.slice aj z.length cj) ∧ Hid (Below w4.heap.size w4 W)) (first | exact HSS.out _ HD5 | exact HSS.out _ (by assumption))
                  (first | (refine step_append_any rfl _ _ 23 rfl w4.heap.size 3 i0 (.int .i64 0) Try.underlying23 hi hz0 hz1 hz2 rfl (.slice ya C.length yc) C.length (C.map (Value.int .i64)) (by rfl) hO.out aj z.length cj z (by rfl) rfl (HKZ.out _ (by assumption)) HN.out.1 HN.out.2 (HS5.out _ (by assumption)) ?_; intro v' w8 hown hgrow; obtain ⟨ga, gc, rfl, hOO, hb8⟩ := HAP.out _ _ _ _ _ hb hown hgrow hO; clear hown hgrow) | (go_at_call 15; refine (HKB.out _ (by assumption)).mono ?_; rintro e w' ⟨ya, yc, rfl, hO, hb⟩) | (go_at_call 14; refine (HKC.out _ _ _ (by assumption) hOO).mono ?_; rintro e w' ⟨rfl, hb9⟩))
                all_goals (go_wp2_with fail; go_meet; exact ⟨rfl, rfl, hb9⟩)
              case rest =>
                obtain ⟨w6, rfl⟩ : ∃ w6 : World, w6 = wc := ⟨_, rfl⟩
                obtain ⟨rfl, rfl, HB6⟩ := hcut
                have HW7 : Hid (Below w3.heap.size w3 w6) := HW.out.trans (HB6.out.mono HW.out.size)
                clear d0 d1 d2
                go_wp2
                go_roundw
                case rel => exact ⟨q + 1, by go_num, by omega, HW7⟩
                case measure => simp [intOf]; omega
          · obtain ⟨w4, rfl⟩ : ∃ w4 : World, w4 = wr := ⟨_, rfl⟩
            have HSS : Hid (∀ W, Hid (Below w4.heap.size w4 W) → W.cell? ⟨w1.heap.size, 0, none⟩ = some (.int .i64 V) ∧ W.cell? ⟨w1.heap.size, 1, none⟩ = some (.slice a1 zss.length c1) ∧ Hid (Below w4.heap.size w4 W)) := fun W hW => ⟨(HT4.out.below hW.out HT4.out.lt).c0, (HT4.out.below hW.out HT4.out.lt).c1, hW⟩
            have HD : Hid (Below w4.heap.size w4 w4.drew) := (Below.refl _ _).drew
            have HD1 : Hid (Below w4.heap.size w4 (w4.drew.alloc (.cells #[.int .i64 1, .int .i64 (-1)] 3))) := HD.out.alloc (Nat.le_refl _) _
            have HD2 : Hid (Below w4.heap.size w4 (w4.alloc (.cells #[.int .i64 1, .int .i64 (-1)] 3)).drew) := (boxed w4 _).drew
            have HAL : Hid (∀ W, Hid (Below w4.heap.size w4 W) → Hid (Below w4.heap.size w4 (W.alloc (.cells #[.int .i64 1, .int .i64 (-1)] 3)))) := fun W hW => hW.out.alloc hW.out.size _
            have HKB : Hid (∀ W, Hid (Below w4.heap.size w4 W) → Calls Try.prog 15 #[.slice ca C.length cc] W fun e w' => ∃ ya yc, e = .returned (.slice ya C.length yc) ∧ Hid (Own w' w4.heap.size (.slice ya C.length yc) C) ∧ Hid (Below w4.heap.size w4 w') ∧ Hid (Below W.heap.size W w')) := fun W hW =>
              (copyInts_any ca cc C W (by omega) (HC4.out.below hW.out)).mono fun e w' ⟨v, he, hO, hb⟩ => by
                have hO' := ownMono hO hW.out.size
                obtain ⟨ya, yc, rfl, _⟩ := hO.reads
                exact ⟨ya, yc, he, hO', hW.out.trans (hb.mono hW.out.size), hb⟩
            have HLA1 : Hid (∀ w', Hid (Below (w4.drew.alloc (.cells #[.int .i64 1, .int .i64 (-1)] 3)).heap.size (w4.drew.alloc (.cells #[.int .i64 1, .int .i64 (-1)] 3)) w') → IntsR w' (some ⟨w4.heap.size, 0, none⟩) [1, -1]) := fun w' hb => IntsR.below (IntsR.lit w4.drew #[.int .i64 1, .int .i64 (-1)] 3 [1, -1] (b := w4.heap.size) rfl rfl) hb.out
            have HLA2 : Hid (∀ w', Hid (Below (w4.alloc (.cells #[.int .i64 1, .int .i64 (-1)] 3)).drew.heap.size (w4.alloc (.cells #[.int .i64 1, .int .i64 (-1)] 3)).drew w') → IntsR w' (some ⟨w4.heap.size, 0, none⟩) [1, -1]) := fun w' hb => IntsR.below (w := (w4.alloc (.cells #[.int .i64 1, .int .i64 (-1)] 3)).drew) (IntsR.below (IntsR.lit w4 #[.int .i64 1, .int .i64 (-1)] 3 [1, -1] (b := w4.heap.size) rfl rfl) ((Below.refl _ _).drew)) hb.out
            have HKC : Hid (∀ W ya yc, Hid (Below w4.heap.size w4 W) → Own W w4.heap.size (.slice ya (C.length + 2) yc) (C ++ [1, -1]) → Calls Try.prog 14 #[.agg #[.int .i64 V, .slice a1 zss.length c1], .slice ya (C.length + 2) yc] W fun e w' => e = .returned (.tuple #[.bool true, .int .i64 0]) ∧ Hid (Below w4.heap.size w4 w')) := fun W ya yc hW hO => by
              obtain ⟨ya', yc', he, hI, _, h1, h2⟩ := hO.parts
              injection he with e1 _ e3
              subst e1 e3
              refine (impliedOf (k := C.length + 2) hV2 HL.out (by simp; omega) (HCin.out.append (fun x hx => ?_)) (HR4.out.below hW.out) hI h1 h2 HLl.out (by simp)).mono ?_
              · rw [List.mem_cons, List.mem_singleton] at hx
                omega
              · rintro e w' ⟨hb, v, rfl, hv⟩
                rw [hv.2 (fails_taut L (x := 1) (by simp) (by simp))]
                exact ⟨rfl, hW.out.trans (hb.mono hW.out.size)⟩
            have HAP : Hid (∀ W ya yc v' w', Hid (Below w4.heap.size w4 W) → w'.ownsRow w4.heap.size 3 1 v' (C.length + 2) (C.map (Value.int .i64) ++ [1, -1].map (Value.int .i64)) → W.grownBy w' (Value.slice ya C.length yc).ownBlock → Hid (Own W w4.heap.size (.slice ya C.length yc) C) → ∃ ga gc, v' = .slice ga (C.length + 2) gc ∧ Own w' w4.heap.size (.slice ga (C.length + 2) gc) (C ++ [1, -1]) ∧ Hid (Below w4.heap.size w4 w')) := fun W ya yc v' w' hW hown hgrow hO => by
              have h1 : Own w' w4.heap.size v' (C ++ [1, -1]) := Own.of hown (by simp) (by simp)
              obtain ⟨ga, gc, rfl, _⟩ := h1.reads
              have e2 : (C ++ [1, -1]).length = C.length + 2 := by simp
              rw [e2] at h1 ⊢
              exact ⟨ga, gc, rfl, h1, hW.out.grown hgrow hW.out.size (fun k hk => (hO.out.lt k hk).1)⟩
            have HN : Hid (C.length + 2 ≤ maxLen ∧ (C.length + 2) * 8 ≤ 140737488355328) := ⟨by omega, by omega⟩
            have HS5 : Hid (∀ W, Hid (Below w4.heap.size w4 W) → w4.heap.size ≤ W.heap.size) := fun W h => h.out.size
            have HB4 := Lib.hid (HB3.out.trans (HW.out.mono HB3.out.size))
            go_wp2
            go_cut [17, 18] from 99 to 106 (fun s17 s18 wc => s17 = .bool true ∧ s18 = .int .i64 0 ∧ Hid (Below w4.heap.size w4 wc))
            case first =>
              go_region_held3 (fun W => W.cell? ⟨w1.heap.size, 0, none⟩ = some (.int .i64 V) ∧ W.cell? ⟨w1.heap.size, 1, none⟩ = some (.slice a1 zss.length c1) ∧ Hid (Below w4.heap.size w4 W)) (first | exact HSS.out _ HD | exact HSS.out _ HD1 | exact HSS.out _ HD2 | exact HSS.out _ (by assumption) | exact HSS.out _ (HAL.out _ hb))
                (first | (refine step_append_any rfl _ _ 23 rfl w4.heap.size 3 i0 (.int .i64 0) Try.underlying23 hi hz0 hz1 hz2 rfl (.slice ya C.length yc) C.length (C.map (Value.int .i64)) (by rfl) (by first | exact hO.out | exact World.ownsRow.alloc hO.out _) _ 2 2 [1, -1] (by rfl) rfl (by first | exact HLA1.out _ hk | exact HLA2.out _ hk | exact IntsR.lit _ _ _ _ rfl rfl) HN.out.1 HN.out.2 (by first | exact HS5.out _ hb | exact HS5.out _ (HAL.out _ hb)) ?_; intro v' w8 hown hgrow; obtain ⟨ga, gc, rfl, hOO, hb8⟩ := HAP.out _ _ _ _ _ (by first | exact hb | exact HAL.out _ hb) hown hgrow (by first | exact hO | exact Lib.hid (World.ownsRow.alloc hO.out _)); clear hown hgrow) | (go_at_call 15; refine (HKB.out _ (by assumption)).mono ?_; rintro e w' ⟨ya, yc, rfl, hO, hb, hk⟩) | (go_at_call 14; refine (HKC.out _ _ _ (by assumption) hOO).mono ?_; rintro e w' ⟨rfl, hb9⟩))
              all_goals (go_wp2_with fail; go_meet; exact ⟨rfl, rfl, hb9⟩)
            case rest =>
              obtain ⟨w6, rfl⟩ : ∃ w6 : World, w6 = wc := ⟨_, rfl⟩
              obtain ⟨rfl, rfl, HB6⟩ := hcut
              have HB7 := Lib.hid (HB4.out.trans (HB6.out.mono HB4.out.size))
              clear c0 c1'
              go_wp2_with fail
              refine (knownR_any _).mono ?_
              rintro e w7 ⟨rfl, hB8⟩
              have HB8 := Lib.hid (HB7.out.trans (hB8.mono HB7.out.size))
              clear hB8
              go_wp2
              go_ret
              exact ⟨rfl, HB8.out⟩
end Go.Proofs.Ytbljkbdbiceokaa
