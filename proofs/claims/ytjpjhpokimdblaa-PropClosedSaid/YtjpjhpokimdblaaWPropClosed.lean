/-
  PropClosed: what Units returns is closed.
-/
import Derived.Test.YtjpjhpokimdblaaPropR
import Derived.Deep.CutRange
namespace Go.Proofs.Ytjpjhpokimdblaa
open Go.RowKit Go.Lib
open Go.RowKit (Below)

/-- What Units answers of a formula of at most 12 variables. -/
theorem units_fit {V : Nat} (h1 : 1 ≤ V) (h2 : V ≤ 12) {zss : List (List Int)} (hb : fitB zss = true) {xs : List Int} (hx : ∀ x ∈ xs, -(V : Int) ≤ x ∧ x ≤ V ∧ x ≠ 0) (hl : xs.length ≤ maxLen) {a : Option Addr} {c : Nat} {xa : Option Addr} {xc : Nat} {w : World} (hR : RowsR .i64 w a (fitL V zss)) (hX : IntsR w xa xs) {l kx : Nat} (hll : (fitL V zss).length = l) (hk : xs.length = kx) :
    Calls Try.prog 13 #[.agg #[.int .i64 V, .slice a l c], .slice xa kx xc] w fun e w' => Below w.heap.size w w' ∧
      ((Fails (fitL V zss) xs ∧ e = .returned (.tuple #[.slice none 0 0, .bool true, .int .i64 0])) ∨ ∃ v u, Follows V (fitL V zss) xs u ∧ e = .returned (.tuple #[v, .bool false, .int .i64 0]) ∧ Own w' w.heap.size v u) := by
  subst hll hk
  have hmx : maxLen = 9223372036854775807 := rfl
  have hlen : (fitL V zss).length ≤ 30 := by rw [fitL_len]; exact (fitB_parts hb).1
  refine (units_any (n := V) a c xa xc w (by omega) (by omega) (fitL_all hb) hR hX hl (fit_rng (by omega) (by omega) zss) fun x hxx => by have := hx x hxx; constructor <;> omega).mono ?_
  rintro e w' ⟨hB, h⟩
  have hC := fit_checkP (V := V) (by omega) (by omega) hb hx
  refine ⟨hB, ?_⟩
  rcases h with ⟨h, _⟩ | ⟨_, h⟩ | ⟨_, h⟩
  · exact absurd hC h
  · exact .inl h
  · exact .inr h

set_option maxRecDepth 100000 in
set_option maxHeartbeats 8000000 in
theorem propClosed_walk (w : World) (n : Int) (hn : (Lit.int .u8 n).wf = true) (a : Option Addr) (c : Nat) (zss : List (List Int)) (hR : RowsR .i8 w a zss) (hA : AllLen zss) (hm : zss.length ≤ maxLen) (hwf : ∀ z ∈ zss, ∀ x ∈ z, (Lit.int .i8 x).wf = true)
    (b : Option Addr) (d : Nat) (qs : List Int) (hQ : KI .i8 w b qs) (hqw : ∀ n ∈ qs, (Lit.int .i8 n).wf = true) (hqm : qs.length ≤ maxLen) :
    Calls Try.prog 7 #[.int .u8 n, .slice a zss.length c, .slice b qs.length d] w fun e w' => e = .returned (.bool true) ∧ Below w.heap.size w w' := by
  obtain ⟨hn0, hn1⟩ := u8_range hn
  obtain ⟨V, hV⟩ : ∃ V : Nat, 1 + n % 12 = (V : Int) := ⟨(1 + n % 12).toNat, by omega⟩
  have hV1 : 1 ≤ V := by omega
  have hV2 : V ≤ 12 := by omega
  have HF := Lib.hid (fit_any n V hn0 hn1 hV a c zss w hR hA hm hwf)
  have HQ := Lib.hid hQ
  have HQW := Lib.hid hqw
  have HQM := Lib.hid hqm
  clear hV hR hA hm hwf hn hn0 hn1 hQ hqw hqm
  go_enter Try.func7, Try.ntmps7
  go_wp2_with fail
  refine HF.out.mono ?_
  rintro e w1 (⟨hf, rfl, hB1⟩ | ⟨hf, a1, c1, rfl, _, _, hR1, hB1⟩)
  · have HB1 := Lib.hid (hB1.alloc hB1.size (.cells #[.int .i64 0, .slice none 0 0] 26))
    clear hB1 hf
    go_wp2_with fail
    refine (knownP_any _).mono ?_
    rintro e w2 ⟨rfl, hB2⟩
    have HB2 := Lib.hid (HB1.out.trans (hB2.mono HB1.out.size))
    clear hB2
    go_wp2
    go_ret
    exact ⟨rfl, HB2.out⟩
  · have HFB := Lib.hid hf
    have HR1 := Lib.hid (hR1.alloc (.cells #[.int .i64 V, .slice a1 zss.length c1] 26))
    have HB1 := Lib.hid (hB1.alloc hB1.size (.cells #[.int .i64 V, .slice a1 zss.length c1] 26))
    have HT := Lib.hid (Two.new w1 (.int .i64 V) (.slice a1 zss.length c1))
    have HQ1 := Lib.hid ((KI.below HQ.out (by exact hB1)).alloc (.cells #[.int .i64 V, .slice a1 zss.length c1] 26))
    clear hB1 hR1 hf HF
    go_wp2_with fail
    refine (assumed_any V (by omega) (by omega) _ b d qs _ HQW.out HQM.out HQ1.out).mono ?_
    rintro e w2 ⟨v2, rfl, hO, hB2⟩
    obtain ⟨va, vc, rfl, hVI⟩ := hO.reads
    have HXO : Hid (∀ x ∈ fitZ (V : Int) (qs.take 12), -(V : Int) ≤ x ∧ x ≤ V ∧ x ≠ 0) := fitZ_range V (by omega) _
    have hxl : (fitZ (V : Int) (qs.take 12)).length ≤ 12 := by
      have h1 := fitZ_le V (qs.take 12)
      have h2 : (qs.take 12).length ≤ 12 := List.length_take_le _ _
      omega
    obtain ⟨xs, hxs⟩ : ∃ xs, fitZ (V : Int) (qs.take 12) = xs := ⟨_, rfl⟩
    rw [hxs] at HXO hxl hVI
    rw [hxs]
    have HT2 := Lib.hid (HT.out.below hB2 (by simp))
    have HR2 := Lib.hid (HR1.out.below hB2)
    have HB2 := Lib.hid (HB1.out.trans (hB2.mono HB1.out.size))
    have HX2 := Lib.hid hVI
    have hg1 : w1.heap.size < w2.heap.size := HT2.out.lt
    have c0 := HT2.out.c0
    have c1' := HT2.out.c1
    have hmx : maxLen = 9223372036854775807 := rfl
    have HXL : Hid (xs.length ≤ maxLen) := by unfold Hid; omega
    clear hxs hVI hO hB2 HB1 HR1 HT HQ HQ1 HQM HQW hmx
    go_wp2_with fail
    refine (units_fit hV1 hV2 HFB.out HXO.out HXL.out HR2.out HX2.out (fitL_len _ _) rfl).mono ?_
    rintro e w3 ⟨hB3, (⟨hF, rfl⟩ | ⟨v3, u, hF, rfl, hO3⟩)⟩
    · have HB3 := Lib.hid (HB2.out.trans (hB3.mono HB2.out.size))
      clear hB3 hF c0 c1'
      go_wp2_with fail
      refine (knownP_any _).mono ?_
      rintro e w4 ⟨rfl, hB4⟩
      have HB4 := Lib.hid (HB3.out.trans (hB4.mono HB3.out.size))
      clear hB4
      go_wp2
      go_ret
      exact ⟨rfl, HB4.out⟩
    · obtain ⟨ua, uc, rfl, hUI⟩ := hO3.reads
      obtain ⟨hord, hrng, hul⟩ := follows_order hF
      have HB3 := Lib.hid (HB2.out.trans (hB3.mono HB2.out.size))
      have HT3 := Lib.hid (HT2.out.below hB3 hg1)
      have HR3 := Lib.hid (HR2.out.below hB3)
      have HX3 := Lib.hid (HX2.out.below hB3)
      have HU3 := Lib.hid hUI
      have HFO := Lib.hid hF
      have HRG := Lib.hid hrng
      have hul12 : u.length ≤ 12 := by omega
      have c1' := HT3.out.c1
      have hg3 : w1.heap.size < w3.heap.size := HT3.out.lt
      have HASS : Hid (∀ x ∈ xs, x ∈ u) := fun x hx => follows_has hF hx
      have HH := Lib.hid (fun (x : Int) (W : World) (h : IntsR W ua u) => has_any ua uc u x W (by have hmx : maxLen = 9223372036854775807 := rfl; omega) h)
      clear hB3 hF hUI hord hrng hO3 c0 hul
      clear HB2 HT2 HR2 HX2 hg1
      go_wp2
      -- the assumptions
      go_loopw [13] (fun i wr => ∃ k : Nat, i = .int .i64 k ∧ k ≤ xs.length ∧ wr = w3) (fun i _ => xs.length - (intOf i).toNat)
      case atStart => exact ⟨0, rfl, Nat.zero_le _, rfl⟩
      case round =>
        obtain ⟨k, rfl, hk, rfl⟩ := hrel
        by_cases hlt : k < xs.length
        · obtain ⟨bx, offx, x, rfl, hx, hcx⟩ := HX3.out.at hlt
          have HXU : Hid (decide (x ∈ u) = true) := decide_eq_true (HASS.out x (List.mem_of_getElem? hx.out))
          have HC := Lib.hid (HH.out x wr HU3.out)
          clear hx
          go_wp2_with fail
          refine HC.out.mono ?_
          rintro e w' ⟨rfl, rfl⟩
          rw [HXU.out]
          go_wp2
          go_roundw
          case rel => exact ⟨k + 1, by go_num, by omega, trivial⟩
          case measure => simp [intOf]; omega
        · go_wp2
          -- what was returned
          obtain ⟨wo, rfl⟩ : ∃ wo : World, wo = wr := ⟨_, rfl⟩
          go_loopw [14] (fun i wr => ∃ k : Nat, i = .int .i64 k ∧ k ≤ u.length ∧ Hid (QuietTo wo wr)) (fun i _ => u.length - (intOf i).toNat)
          case atStart => exact ⟨0, rfl, Nat.zero_le _, QuietTo.rfl'⟩
          case round =>
            obtain ⟨j, rfl, hj, HQT⟩ := hrel
            have hU := HU3.out.below (quietBelow HQT.out wo.heap.size)
            by_cases hjl : j < u.length
            · obtain ⟨bx, offx, x, rfl, hx, hcx⟩ := hU.at hjl
              have hxm := List.mem_of_getElem? hx.out
              have HN : Hid (decide (-x ∈ u) = false) := decide_eq_false (follows_neg HFO.out hxm)
              have hxr := HRG.out x hxm
              have hx1 : -12 ≤ x := by omega
              have hx2 : x ≤ 12 := by omega
              have hwx : IntKind.i64.wrap (-x) = -x := IntWalk.i64_in _ (by omega)
              have HC : Hid (∀ q, Calls Try.prog 22 #[.slice (some ⟨bx, offx, none⟩) u.length uc, .int .i64 (-x)] (wr.drewN q) fun e w' => e = .returned (.bool false) ∧ w' = wr.drewN q) := fun q => by
                have h := HH.out (-x) (wr.drewN q) (hU.below (quietBelow ⟨q, rfl⟩ wr.heap.size))
                rw [HN.out] at h
                exact h
              have HQ2 : Hid (∀ q, QuietTo wo (wr.drewN q)) := fun q => HQT.out.on q
              by_cases hj0 : j = 0
              · subst hj0
                have HU' := Lib.hid hU
                rw [Nat.add_zero] at hcx
                clear hU hx hxm hxr HQT
                go_wp2
                go_quiet ((go_at_call 22; exact Calls.quiet_of_same (HC.out _)))
                go_wp2
                go_roundw
                case rel => exact ⟨1, by go_num, by omega, HQ2.out _⟩
                case measure => simp [intOf]; omega
              · obtain ⟨i, hi⟩ : ∃ i, j = i + 1 := ⟨j - 1, by omega⟩
                obtain ⟨bx2, offx2, y, hbx, hy, hcy⟩ := hU.at (k := i) (by omega)
                cases hbx
                have hst := follows_step HFO.out hy.out (by rw [← hi]; exact hx.out)
                have hyr := HRG.out y (List.mem_of_getElem? hy.out)
                have hy1 : -12 ≤ y := by omega
                have hy2 : y ≤ 12 := by omega
                have hwy : IntKind.i64.wrap (-y) = -y := IntWalk.i64_in _ (by omega)
                have hj1 : (0 : Int) < (j : Int) := by omega
                have hj1n : 0 < j := by omega
                have hi0 : (0 : Int) ≤ (i : Int) := by omega
                have hi1 : (i : Int) < (u.length : Int) := by omega
                have hw : IntKind.i64.wrap (↑j - 1) = (i : Int) := by rw [hi]; rw [IntWalk.i64_in _ (by omega)]; omega
                have hcase : ((if x < -x then -x else x) ≤ (if y < -y then -y else y)) = False := by
                  apply eq_false
                  split <;> split <;> omega
                clear hU hx hxm hxr HQT hj0 hi hy hst hyr
                go_wp2
                go_quiet ((go_at_call 22; exact Calls.quiet_of_same (HC.out _)))
                go_wp2
                go_roundw
                case rel => exact ⟨j + 1, by go_num, by omega, HQ2.out _⟩
                case measure => simp [intOf]; omega
            · go_wp2
              -- the clauses
              have HU4 := Lib.hid hU
              have HT4 := Lib.hid (HT3.out.below (quietBelow HQT.out wo.heap.size) hg3)
              have HR4 := Lib.hid (HR3.out.quiet HQT.out)
              have HB4 := Lib.hid (HB3.out.trans (quietBelow HQT.out w.heap.size))
              have hg4 : w1.heap.size < wr.heap.size := HT4.out.lt
              have HL := Lib.hid (fitL_len (V : Int) zss)
              have HSH : Hid (∀ z ∈ fitL (V : Int) zss, z.length ≤ 20) := fun z hz => by
                unfold fitL at hz
                obtain ⟨y, hy, rfl⟩ := List.mem_map.1 hz
                exact Nat.le_trans (fitZ_le _ _) ((fitB_parts HFB.out).2 y hy)
              have hzl : zss.length ≤ 30 := (fitB_parts HFB.out).1
              have HDONE : Hid (∀ z ∈ fitL (V : Int) zss, holdsL' u z = false → 2 ≤ (seenL u z).length) := fun z hz h => follows_done HFO.out hz h
              have HZR := Lib.hid (fit_rng (V := (V : Int)) (by omega) (by omega) zss)
              have hx12 : ∀ z ∈ fitL (V : Int) zss, ∀ x ∈ z, -12 ≤ x ∧ x ≤ 12 := fun z hz x hx => by
                unfold fitL at hz
                obtain ⟨y, hy, rfl⟩ := List.mem_map.1 hz
                have := fitZ_range V (by omega) y x hx
                omega
              have HX12 := Lib.hid hx12
              clear hx12
              generalize fitL (V : Int) zss = L at HL HSH HDONE HX12 HR4
              obtain ⟨w4, rfl⟩ : ∃ w4 : World, w4 = wr := ⟨_, rfl⟩
              clear hU HQT HU3 HT3 HR3 HX3 HASS HXO HXL HRG HFO HZR HB3 hxl c1' hjl hlt hj hk HFB
              obtain ⟨i0, hi, hz0, hz1, hz2⟩ := info_parts Try.info3
              go_loopw [15] (fun i wr => ∃ k : Nat, i = .int .i64 k ∧ k ≤ zss.length ∧ Hid (Below w4.heap.size w4 wr)) (fun i _ => zss.length - (intOf i).toNat)
              case atStart => exact ⟨0, rfl, Nat.zero_le _, Below.refl _ _⟩
              case round =>
                obtain ⟨k5, rfl, hk5, HB5⟩ := hrel
                have hT5 := HT4.out.below HB5.out hg4
                have c1 := hT5.c1
                by_cases hlt5 : k5 < zss.length
                · obtain ⟨bz, offz, aj, cj, z, rfl, hbz, hzz, hcz, hKz⟩ := HR4.out.at (j := k5) (by rw [HL.out]; exact hlt5)
                  have hzm : z ∈ L := List.mem_of_getElem? hzz.out
                  have hz20 := HSH.out z hzm
                  have HD5 := Lib.hid (HDONE.out z hzm)
                  have HX5 := Lib.hid (HX12.out z hzm)
                  have hcz5 : wr.cell? ⟨bz, offz + k5, none⟩ = some (.slice aj z.length cj) := by rw [HB5.out.cell (p := ⟨bz, offz + k5, none⟩) hbz]; exact hcz
                  have HK5 := Lib.hid (hKz.out.ints.below HB5.out)
                  have HU5 := Lib.hid (HU4.out.below HB5.out)
                  have HCZ := Lib.hid hcz5
                  have HT5 := Lib.hid hT5
                  have hbz5 : bz < wr.heap.size := Nat.lt_of_lt_of_le hbz HB5.out.size
                  have hg5 : w1.heap.size < wr.heap.size := HT5.out.lt
                  obtain ⟨w5, rfl⟩ : ∃ w5 : World, w5 = wr := ⟨_, rfl⟩
                  clear hcz hKz hzm hzz hT5
                  go_wp2
                  clear c1 hcz5
                  go_loopw [16, 17, 18, 19, 20] (fun h o sv i x0 wr => ∃ (k : Nat), i = .int .i64 k ∧ k ≤ z.length ∧ h = .bool (holdsL' u (z.take k)) ∧ o = .int .i64 (seenL u (z.take k)).length ∧ Hid (Own wr w5.heap.size sv (seenL u (z.take k))) ∧ Hid (Below w5.heap.size w5 wr)) (fun _ _ _ i _ _ => z.length - (intOf i).toNat)
                  case atStart => exact ⟨0, rfl, Nat.zero_le _, rfl, rfl, Own.nil _ _, Below.refl _ _⟩
                  case round =>
                    obtain ⟨m, rfl, hm, rfl, rfl, HO, HB6⟩ := hrel
                    have c1 := (HT5.out.below HB6.out hg5).c1
                    have hcz6 : wr.cell? ⟨bz, offz + k5, none⟩ = some (.slice aj z.length cj) := by rw [HB6.out.cell (p := ⟨bz, offz + k5, none⟩) hbz5]; exact HCZ.out
                    have hsn := seenL_le u (z.take m)
                    have htk : (z.take m).length ≤ m := List.length_take_le _ _
                    obtain ⟨sa, sc, rfl, hSI⟩ := HO.out.reads
                    have HS6 := Lib.hid hSI
                    have HU6 := Lib.hid (HU5.out.below HB6.out)
                    have hsz6 := HB6.out.size
                    by_cases hlm : m < z.length
                    · obtain ⟨b6, off6, x, rfl, hx, hcx⟩ := (HK5.out.below HB6.out).at hlm
                      have htake := take_snoc _ _ _ hx.out
                      have hxb := HX5.out x (List.mem_of_getElem? hx.out)
                      have hx1 := hxb.1
                      have hx2 := hxb.2
                      have HHS : Hid (holdsL' u (z.take (m + 1)) = (holdsL' u (z.take m) || decide (x ∈ u))) := by unfold Hid; rw [htake, holdsL'_snoc]
                      have hSN : seenL u (z.take (m + 1)) = seenF u (seenL u (z.take m)) x := by rw [htake, seenL_snoc]
                      have HC1 := Lib.hid (HH.out x wr HU6.out)
                      have HC2 := Lib.hid (HH.out (-x) wr HU6.out)
                      have HC3 := Lib.hid (has_any sa sc (seenL u (z.take m)) x wr (by have hmx : maxLen = 9223372036854775807 := rfl; omega) HS6.out)
                      have hcase : (decide (-x ∈ u) = true ∧ seenL u (z.take (m + 1)) = seenL u (z.take m)) ∨ (decide (-x ∈ u) = false ∧ decide (x ∈ seenL u (z.take m)) = true ∧ seenL u (z.take (m + 1)) = seenL u (z.take m)) ∨
                          (decide (-x ∈ u) = false ∧ decide (x ∈ seenL u (z.take m)) = false ∧ seenL u (z.take (m + 1)) = seenL u (z.take m) ++ [x]) := by
                        rw [hSN]; unfold seenF
                        cases h3 : decide (-x ∈ u) <;> cases h4 : decide (x ∈ seenL u (z.take m)) <;> simp
                      clear hSI hxb hx htake hSN
                      obtain ⟨S, hS⟩ : ∃ S, seenL u (z.take m) = S := ⟨_, rfl⟩
                      rw [hS] at HC3 hcase HO HS6 hsn
                      rw [hS]
                      obtain ⟨bh, hbh⟩ : ∃ bh, holdsL' u (z.take m) = bh := ⟨_, rfl⟩
                      rw [hbh] at HHS
                      rw [hbh]
                      clear hS hbh
                      have hsl : S.length ≤ 20 := by omega
                      clear hsn htk
                      cases bh
                      · rcases hcase with ⟨h3, h5⟩ | ⟨h3, h4, h5⟩ | ⟨h3, h4, h5⟩
                        · have H3 := Lib.hid h3
                          have H5 := Lib.hid h5
                          clear h3 h5
                          go_wp2_with fail
                          refine HC1.out.mono ?_
                          rintro e w' ⟨rfl, rfl⟩
                          go_wp2_with fail
                          refine HC2.out.mono ?_
                          rintro e w' ⟨rfl, rfl⟩
                          rw [H3.out]
                          go_wp2
                          go_roundw
                          case rel => exact ⟨m + 1, by go_num, by omega, by rw [HHS.out]; simp, by rw [H5.out], by rw [H5.out]; exact HO.out, HB6.out⟩
                          case measure => simp [intOf]; omega
                        · have H3 := Lib.hid h3
                          have H4 := Lib.hid h4
                          have H5 := Lib.hid h5
                          clear h3 h4 h5
                          go_wp2_with fail
                          refine HC1.out.mono ?_
                          rintro e w' ⟨rfl, rfl⟩
                          go_wp2_with fail
                          refine HC2.out.mono ?_
                          rintro e w' ⟨rfl, rfl⟩
                          rw [H3.out]
                          go_wp2_with fail
                          refine HC3.out.mono ?_
                          rintro e w' ⟨rfl, rfl⟩
                          rw [H4.out]
                          go_wp2
                          go_roundw
                          case rel => exact ⟨m + 1, by go_num, by omega, by rw [HHS.out]; simp, by rw [H5.out], by rw [H5.out]; exact HO.out, HB6.out⟩
                          case measure => simp [intOf]; omega
                        · have H3 := Lib.hid h3
                          have H4 := Lib.hid h4
                          have H5 := Lib.hid h5
                          clear h3 h4 h5
                          go_wp2_with fail
                          refine HC1.out.mono ?_
                          rintro e w' ⟨rfl, rfl⟩
                          go_wp2_with fail
                          refine HC2.out.mono ?_
                          rintro e w' ⟨rfl, rfl⟩
                          rw [H3.out]
                          go_wp2_with fail
                          refine HC3.out.mono ?_
                          rintro e w' ⟨rfl, rfl⟩
                          rw [H4.out]
                          go_wp2_with (at_builtin; refine wpList_append_own _ rfl _ _ 23 rfl w5.heap.size 3 i0 (.int .i64 0) 1 8 Try.underlying23 hi hz0 hz1 hz2 rfl (by decide) (.slice sa S.length sc) S.length (S.map (Value.int .i64)) (by rfl) (World.ownsRow.alloc HO.out _) ⟨w'.heap.size, 0, none⟩ 1 1 [.int .i64 x] (by rfl) (by rfl) (one_new (by simp)) one_int ?c3 ?c4 ?c5 ?_)
                          case c3 => unfold maxLen; omega
                          case c4 => omega
                          case c5 => simp; omega
                          intro v' w7 hown' hgrow _
                          have R1 := Lib.hid (Own.of (zs := seenL u (z.take (m + 1))) hown' (by rw [H5.out]; simp) (by rw [H5.out]; simp))
                          have R2 := Lib.hid (Own.below HO.out HB6.out hsz6 hgrow)
                          clear hown' hgrow
                          go_wp2
                          go_roundw
                          case rel => exact ⟨m + 1, by go_num, by omega, by rw [HHS.out]; simp, by rw [H5.out]; simp, R1.out, R2.out⟩
                          case measure => simp [intOf]; omega
                      · rcases hcase with ⟨h3, h5⟩ | ⟨h3, h4, h5⟩ | ⟨h3, h4, h5⟩
                        · have H3 := Lib.hid h3
                          have H5 := Lib.hid h5
                          clear h3 h5
                          go_wp2_with fail
                          refine HC2.out.mono ?_
                          rintro e w' ⟨rfl, rfl⟩
                          rw [H3.out]
                          go_wp2
                          go_roundw
                          case rel => exact ⟨m + 1, by go_num, by omega, by rw [HHS.out]; simp, by rw [H5.out], by rw [H5.out]; exact HO.out, HB6.out⟩
                          case measure => simp [intOf]; omega
                        · have H3 := Lib.hid h3
                          have H4 := Lib.hid h4
                          have H5 := Lib.hid h5
                          clear h3 h4 h5
                          go_wp2_with fail
                          refine HC2.out.mono ?_
                          rintro e w' ⟨rfl, rfl⟩
                          rw [H3.out]
                          go_wp2_with fail
                          refine HC3.out.mono ?_
                          rintro e w' ⟨rfl, rfl⟩
                          rw [H4.out]
                          go_wp2
                          go_roundw
                          case rel => exact ⟨m + 1, by go_num, by omega, by rw [HHS.out]; simp, by rw [H5.out], by rw [H5.out]; exact HO.out, HB6.out⟩
                          case measure => simp [intOf]; omega
                        · have H3 := Lib.hid h3
                          have H4 := Lib.hid h4
                          have H5 := Lib.hid h5
                          clear h3 h4 h5
                          go_wp2_with fail
                          refine HC2.out.mono ?_
                          rintro e w' ⟨rfl, rfl⟩
                          rw [H3.out]
                          go_wp2_with fail
                          refine HC3.out.mono ?_
                          rintro e w' ⟨rfl, rfl⟩
                          rw [H4.out]
                          go_wp2_with (at_builtin; refine wpList_append_own _ rfl _ _ 23 rfl w5.heap.size 3 i0 (.int .i64 0) 1 8 Try.underlying23 hi hz0 hz1 hz2 rfl (by decide) (.slice sa S.length sc) S.length (S.map (Value.int .i64)) (by rfl) (World.ownsRow.alloc HO.out _) ⟨w'.heap.size, 0, none⟩ 1 1 [.int .i64 x] (by rfl) (by rfl) (one_new (by simp)) one_int ?c3 ?c4 ?c5 ?_)
                          case c3 => unfold maxLen; omega
                          case c4 => omega
                          case c5 => simp; omega
                          intro v' w7 hown' hgrow _
                          have R1 := Lib.hid (Own.of (zs := seenL u (z.take (m + 1))) hown' (by rw [H5.out]; simp) (by rw [H5.out]; simp))
                          have R2 := Lib.hid (Own.below HO.out HB6.out hsz6 hgrow)
                          clear hown' hgrow
                          go_wp2
                          go_roundw
                          case rel => exact ⟨m + 1, by go_num, by omega, by rw [HHS.out]; simp, by rw [H5.out]; simp, R1.out, R2.out⟩
                          case measure => simp [intOf]; omega
                    · have hmz : m = z.length := by omega
                      have hS : seenL u (z.take m) = seenL u z ∧ holdsL' u (z.take m) = holdsL' u z := by rw [hmz, List.take_length]; exact ⟨rfl, rfl⟩
                      rw [hS.1, hS.2]
                      rw [hS.1] at hsn
                      have HB7 := Lib.hid (HB5.out.trans (HB6.out.mono HB5.out.size))
                      clear hSI hS HO
                      cases hb : holdsL' u z with
                      | true =>
                        clear hb
                        go_wp2
                        go_roundw
                        case rel => exact ⟨k5 + 1, by go_num, by omega, HB7⟩
                        case measure => simp [intOf]; omega
                      | false =>
                        have h2 := HD5.out hb
                        have h2' : ¬ (((seenL u z).length : Int) < 2) := by omega
                        have h2n : ¬ ((seenL u z).length < 2) := by omega
                        clear hb
                        go_wp2
                        go_roundw
                        case rel => exact ⟨k5 + 1, by go_num, by omega, HB7⟩
                        case measure => simp [intOf]; omega
                · have HB7 := Lib.hid (HB4.out.trans (HB5.out.mono HB4.out.size))
                  clear hT5
                  go_wp2_with fail
                  refine (knownP_any _).mono ?_
                  rintro e w8 ⟨rfl, hB8⟩
                  have HB8 := Lib.hid (HB7.out.trans (hB8.mono HB7.out.size))
                  clear hB8
                  go_wp2
                  go_ret
                  exact ⟨rfl, HB8.out⟩
end Go.Proofs.Ytjpjhpokimdblaa
