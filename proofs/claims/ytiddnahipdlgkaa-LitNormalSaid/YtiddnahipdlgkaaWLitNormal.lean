/-
  LitNormal's walk.
-/
import Derived.Test.YtiddnahipdlgkaaLitP
import Derived.Deep.QuietTactic
import Derived.BigQuiet
namespace Go.Proofs.Ytiddnahipdlgkaa
open Go.RowKit Go.Lib
open Go.RowKit (Below)

theorem less_is (x y : Int) (b : Bool) (h : Hid (lessB x y = b)) (w : World) : Calls Try.prog 19 #[.int .i64 x, .int .i64 y] w fun e w' => e = .returned (.bool b) ∧ w' = w := by
  have := less_any x y w; rw [h.out] at this; exact this.mono fun _ _ ⟨h1, h2⟩ => ⟨h1, h2.symm⟩
theorem has_is (n : Int) (b : Bool) {zs : List Int} {k : Nat} (hk : zs.length = k) (h : hasB zs n = b) (c : Option Addr) (cc : Nat) (w : World) (hm : k ≤ maxLen) (hR : IntsR w c zs) :
    Calls Try.prog 23 #[.slice c k cc, .int .i64 n] w fun e w' => e = .returned (.bool b) ∧ w = w' := by
  subst hk h; exact has_any n c cc zs w hm hR
theorem hasB_mem {zs : List Int} {n : Int} (h : n ∈ zs) : hasB zs n = true := by
  unfold hasB; rw [List.any_eq_true]; exact ⟨n, h, by simp⟩

set_option maxRecDepth 100000 in
set_option maxHeartbeats 4000000 in
theorem litNormal_walk (w : World) (a : Option Addr) (c : Nat) (zs : List Int) (hR : IntsR w a zs) (hwf : ∀ x ∈ zs, (Lit.int .i64 x).wf = true) (hm : zs.length ≤ maxLen) (t : Int) (wt : (Lit.int .u8 t).wf = true) :
    Calls Try.prog 7 #[.slice a zs.length c, .int .u8 t] w fun e w' => e = .returned (.bool true) ∧ Below w.heap.size w w' := by
  unfold maxLen at hm
  by_cases hl : 60 < zs.length
  · have hK := known_any w
    go_enter Try.func7, Try.ntmps7
    go_wp2_with (go_at_call 12; refine hK.mono ?_; rintro e w' ⟨rfl, hB⟩)
    go_ret
    exact ⟨rfl, hB⟩
  have hl' : zs.length ≤ 60 := by omega
  clear hl
  obtain ⟨T, rfl, hT⟩ : ∃ T : Nat, t = (T : Int) ∧ T ≤ 255 := by
    unfold Lit.wf at wt
    rw [Bool.and_eq_true, decide_eq_true_eq, decide_eq_true_eq] at wt
    have h1 : (0 : Int) ≤ t := wt.1
    have h2 : t ≤ 255 := wt.2
    exact ⟨t.toNat, by omega, by omega⟩
  clear wt
  have hnb := neighbours zs hwf
  have hmem := normB_mem zs
  have hspec := normB_spec zs
  have hagain := normB_again zs
  have hrl := normB_length zs
  have hoth := normB_members (otherL_mem zs T)
  obtain ⟨r, hr⟩ : ∃ r, (normB zs).1 = r := ⟨_, rfl⟩
  obtain ⟨is, his⟩ : ∃ is, (normB zs).2 = is := ⟨_, rfl⟩
  have hnB : normB zs = (r, is) := Prod.ext hr his
  rw [hnB] at hoth
  rw [hr] at hrl hnb hmem hagain hspec
  rw [his] at hspec
  obtain ⟨n, hn⟩ : ∃ n, r.length = n := ⟨_, rfl⟩
  rw [hn] at hrl
  have HN := Lib.hid hn
  have HNB := Lib.hid hnB
  have HNE := Lib.hid hnb
  have HME := Lib.hid hmem
  have HSP := Lib.hid hspec
  have HAG := Lib.hid hagain
  have HOT := Lib.hid hoth
  clear hr his hnB hn hnb hmem hspec hagain hoth hwf
  obtain ⟨i0, hi, hz0, hz1, hz2⟩ := info_parts Try.info3
  go_enter Try.func7, Try.ntmps7
  go_wp2_with fail
  refine (norm_is rfl HN.out HNB.out a c w (by omega) hR).mono ?_
  rintro e w1 ⟨a1, c1, rfl, hX, hB1⟩
  have HC := Lib.hid (hR.below hB1)
  have HX := Lib.hid hX
  have B1 := Lib.hid hB1
  clear hR hX hB1
  go_wp2
  go_loopw [7] (fun i wr => ∃ j : Nat, i = .int .i64 j ∧ (j = 0 ∨ j + 1 ≤ n) ∧ Hid (QuietTo w1 wr)) (fun i _ => n - (intOf i).toNat)
  case atStart => exact ⟨0, rfl, .inl rfl, 0, rfl⟩
  case round =>
    obtain ⟨j, rfl, hj, HQ⟩ := hrel
    have hj2 : j ≤ 60 := by omega
    by_cases hjl : j + 1 < n
    · have hX2 := HX.out.quiet HQ.out
      obtain ⟨b1, off1, p, ha1, HP, hcp⟩ := hX2.at (k := j) (by have := HN.out; omega)
      obtain ⟨b2, off2, q, ha2, HQ2, hcq⟩ := hX2.at (k := j + 1) (by have := HN.out; omega)
      subst ha1
      injection ha2 with ha2
      injection ha2 with ha2 ha3
      subst ha2; subst ha3
      obtain ⟨h1, h2⟩ := HNE.out j p q HP.out HQ2.out
      have HL := Lib.hid h1
      have h3 : (p == wrap64 (-q)) = false := by rw [wrap_walk]; exact h2
      clear hX2 h1 h2
      go_wp2
      go_quiet ((go_at_call 19; exact Calls.quiet_of_same (less_is _ _ _ HL _)))
      go_wp2
      go_roundw
      case rel => exact ⟨j + 1, by go_num, by omega, HQ.out.then_ _⟩
      case measure => simp [intOf]; omega
    · cases is
      · go_wp2
        have HMEM : Hid (∀ x, x ∈ r ↔ x ∈ zs ∧ x ≠ 0) := (HSP.out.no rfl).2.2
        have HCw := Lib.hid (HC.out.quiet HQ.out)
        have HXw := Lib.hid (HX.out.quiet HQ.out)
        go_loop [8] (fun i => ∃ k : Nat, i = .int .i64 k ∧ k ≤ zs.length) (fun i => zs.length - (intOf i).toNat)
        case atStart => exact ⟨0, rfl, Nat.zero_le _⟩
        case round =>
          obtain ⟨k, rfl, hk⟩ := hrel
          by_cases hlt : k < zs.length
          · obtain ⟨b1, off1, z, rfl, HZ, hcz⟩ := HCw.out.at hlt
            by_cases hz : z = 0
            · have g1 : (z == 0) = true := by simp [hz]
              have g2 : (z != 0) = false := by simp [hz]
              subst hz
              go_wp2
              go_round
              case rel => exact ⟨k + 1, by go_num, by omega⟩
              case measure => simp [intOf]; omega
            · have g1 : (z == 0) = false := by simp [hz]
              have g2 : (z != 0) = true := by simp [hz]
              have HH : Hid (hasB r z = true) := hasB_mem ((HMEM.out z).2 ⟨List.mem_of_getElem? HZ.out, hz⟩)
              clear hz
              go_wp2_with (go_at_call 23; refine (has_is _ _ HN.out HH.out _ _ _ (by unfold maxLen; omega) HXw.out).mono ?_; rintro e w' ⟨rfl, rfl⟩)
              go_round
              case rel => exact ⟨k + 1, by go_num, by omega⟩
              case measure => simp [intOf]; omega
          · go_wp2
            go_loop [9] (fun i => ∃ k : Nat, i = .int .i64 k ∧ k ≤ n) (fun i => n - (intOf i).toNat)
            case atStart => exact ⟨0, rfl, Nat.zero_le _⟩
            case round =>
              obtain ⟨k', rfl, hk'⟩ := hrel
              by_cases hlt2 : k' < n
              · obtain ⟨b1, off1, z, rfl, HZ, hcz⟩ := HXw.out.at (k := k') (by have := HN.out; omega)
                have hzz := HME.out z (List.mem_of_getElem? HZ.out)
                have g1 : (z == 0) = false := by simp [hzz.2]
                have HH : Hid (hasB zs z = true) := hasB_mem hzz.1
                clear hzz
                go_wp2_with (go_at_call 23; refine (has_is _ _ rfl HH.out _ _ _ (by unfold maxLen; omega) HCw.out).mono ?_; rintro e w' ⟨rfl, rfl⟩)
                go_round
                case rel => exact ⟨k' + 1, by go_num, by omega⟩
                case measure => simp [intOf]; omega
              · clear HCw HXw HMEM
                go_wp2
                obtain ⟨wo, rfl⟩ : ∃ wo : World, wo = wr := ⟨_, rfl⟩
                have hCo := HC.out.quiet HQ.out
                have hXo := HX.out.quiet HQ.out
                have BO : Hid (Below w.heap.size w wo) := B1.out.trans (quiet_below HQ.out _)
                have HCO := Lib.hid hCo
                have HXO := Lib.hid hXo
                clear hCo hXo HC HX B1 HQ
                go_loopw [10, 11] (fun v i wr => ∃ k : Nat, i = .int .i64 k ∧ k ≤ zs.length ∧ Hid (Own wr wo.heap.size v (otherL zs T k)) ∧ Hid (Below wo.heap.size wo wr)) (fun _ i _ => zs.length - (intOf i).toNat)
                case atStart => exact ⟨0, rfl, Nat.zero_le _, World.ownsRow_nil _ _ _ _, Below.refl _ _⟩
                case round =>
                  obtain ⟨k, rfl, hk, HO, HB⟩ := hrel
                  have hle := otherL_le zs T k
                  have hsz := HB.out.size
                  by_cases hlt : k < zs.length
                  · obtain ⟨P, hP⟩ : ∃ P, P = (zs.length - 1 - k + T) % zs.length := ⟨_, rfl⟩
                    have hpl : P < zs.length := by rw [hP]; exact Nat.mod_lt _ (by omega)
                    have hpi : ((zs.length : Int) - 1 - k + T) % zs.length = P := by
                      rw [hP, Int.natCast_emod]; congr 1; omega
                    have hCr := HCO.out.below HB.out
                    obtain ⟨b1, off1, p, ha1, HP, hcp⟩ := hCr.at hpl
                    obtain ⟨b2, off2, q, ha2, HQ2, hcq⟩ := hCr.at hlt
                    have HOA : Hid (otherAt zs T k = p) := by
                      unfold Hid otherAt
                      rw [← hP]
                      have h1 := getD_some zs 0 P hpl
                      rw [HP.out] at h1
                      exact (Option.some.inj h1).symm
                    have HQA : Hid (zs.getD k 0 = q) := by
                      have h1 := getD_some zs 0 k hlt
                      rw [HQ2.out] at h1
                      exact (Option.some.inj h1).symm
                    have hCb : b1 < wo.heap.size := by
                      rcases HCO.out with h | ⟨b', off', ha', hs', _⟩
                      · omega
                      · rw [ha1] at ha'; injection ha' with ha'; injection ha' with ha'; omega
                    subst ha1
                    injection ha2 with ha2
                    injection ha2 with ha2 ha3
                    subst ha2; subst ha3
                    clear hP hCr
                    go_wp2_with (at_builtin; refine wpList_append_own _ rfl _ _ 22 rfl wo.heap.size 3 i0 (.int .i64 0) 1 8 Try.underlying22 hi hz0 hz1 hz2 rfl (by decide) _ _ _ rfl (World.ownsRow.alloc HO.out _) ⟨wr.heap.size, 0, none⟩ 1 1 [.int .i64 p] rfl rfl (one_new (by rfl)) one_int ?e3 ?e4 ?e5 ?_)
                    case e3 => unfold maxLen; omega
                    case e4 => omega
                    case e5 => first | omega | (simp; omega)
                    intro v' w2 hown' hgrow _
                    have R1 := Lib.hid (Own.of (zs := otherL zs T k ++ [p]) hown' (by simp) (by simp))
                    have R2 := Lib.hid (Own.below HO.out HB.out hsz hgrow)
                    have hcq2 : w2.cell? ⟨b1, off1 + k, none⟩ = some (.int .i64 q) := by
                      have e1 : wr.cell? ⟨b1, off1 + k, none⟩ = wo.cell? ⟨b1, off1 + k, none⟩ := HB.out.cell (p := ⟨b1, off1 + k, none⟩) hCb
                      rw [R2.out.cell (p := ⟨b1, off1 + k, none⟩) hCb, ← e1]; exact hcq
                    clear hown' hgrow HO HB hpi hcp hcq
                    by_cases h3 : k % 3 = 1
                    · have g1 : ((k : Int) % 3 == 1) = true := by simp; omega
                      have R3 : Hid (otherL zs T k ++ [p] ++ [q] = otherL zs T (k + 1)) := by unfold Hid; rw [otherL_two h3, HOA.out, HQA.out]
                      have hsz2 := R2.out.size
                      clear h3
                      go_wp2_with (at_builtin; refine wpList_append_own _ rfl _ _ 22 rfl wo.heap.size 3 i0 (.int .i64 0) 1 8 Try.underlying22 hi hz0 hz1 hz2 rfl (by decide) _ _ _ rfl (World.ownsRow.alloc R1.out _) ⟨w2.heap.size, 0, none⟩ 1 1 [.int .i64 q] rfl rfl (one_new (by rfl)) one_int ?d3 ?d4 ?d5 ?_)
                      case d3 => unfold maxLen; first | omega | (simp; omega)
                      case d4 => first | omega | (simp; omega)
                      case d5 => first | omega | (simp; omega)
                      intro v'' w3 hown' hgrow _
                      have R4 := Lib.hid (Own.of (zs := otherL zs T (k + 1)) hown' (by rw [← R3.out]; simp) (by rw [← R3.out]; simp))
                      have R5 := Lib.hid (Own.below R1.out R2.out hsz2 hgrow)
                      clear hown' hgrow R1 R2
                      go_wp2
                      go_roundw
                      case rel => exact ⟨k + 1, by go_num, by omega, R4, R5⟩
                      case measure => simp [intOf]; omega
                    · have g1 : ((k : Int) % 3 == 1) = false := by simp; omega
                      have R3 : Hid (Own w2 wo.heap.size v' (otherL zs T (k + 1))) := by unfold Hid; rw [otherL_one h3, HOA.out]; exact R1.out
                      clear h3 R1
                      go_wp2
                      go_roundw
                      case rel => exact ⟨k + 1, by go_num, by omega, R3, R2⟩
                      case measure => simp [intOf]; omega
                  · obtain rfl : k = zs.length := by omega
                    obtain ⟨ao, co, rfl, hRo⟩ := HO.out.reads
                    have hXr := HXO.out.below HB.out
                    have BR := Lib.hid (BO.out.trans (HB.out.mono BO.out.size))
                    obtain ⟨no, hno⟩ : ∃ no, (otherL zs T zs.length).length = no := ⟨_, rfl⟩
                    rw [hno] at hle ⊢
                    have HNO := Lib.hid hno
                    clear hno HO HB HXO HCO BO hsz
                    go_wp2_with fail
                    refine (norm_is HNO.out HN.out HOT.out ao co wr (by omega) hRo).mono ?_
                    rintro e w3 ⟨a3, c3, rfl, hY, hB3⟩
                    have hX3 := hXr.below hB3
                    have B3 := Lib.hid (BR.out.trans (hB3.mono BR.out.size))
                    clear hRo hXr hB3 BR
                    go_wp2_with fail
                    refine (norm_is HN.out HN.out HAG.out a1 c1 w3 (by omega) hX3).mono ?_
                    rintro e w4 ⟨a4, c4, rfl, hZ, hB4⟩
                    have hX4 := hX3.below hB4
                    have hY4 := hY.below hB4
                    have B4 := Lib.hid (B3.out.trans (hB4.mono B3.out.size))
                    clear hX3 hY hB4 B3
                    go_wp2_with fail
                    refine (equal_self HN.out a1 a3 c1 c3 w4 (by unfold maxLen; omega) hX4 hY4).mono ?_
                    rintro e w5 ⟨rfl, hB5⟩
                    have hX5 := hX4.below hB5
                    have hZ5 := hZ.below hB5
                    have B5 := Lib.hid (B4.out.trans (hB5.mono B4.out.size))
                    clear hX4 hY4 hZ hB5 B4
                    go_wp2_with fail
                    refine (equal_self HN.out a1 a4 c1 c4 w5 (by unfold maxLen; omega) hX5 hZ5).mono ?_
                    rintro e w6 ⟨rfl, hB6⟩
                    have B6 := Lib.hid (B5.out.trans (hB6.mono B5.out.size))
                    clear hX5 hZ5 hB6 B5
                    go_wp2_with fail
                    refine (known_any _).mono ?_
                    rintro e w7 ⟨rfl, hB7⟩
                    go_wp2
                    go_ret
                    exact ⟨rfl, B6.out.trans (hB7.mono B6.out.size)⟩
      · go_wp2
        obtain ⟨wo, rfl⟩ : ∃ wo : World, wo = wr := ⟨_, rfl⟩
        have hCo := HC.out.quiet HQ.out
        have hXo := HX.out.quiet HQ.out
        have BO : Hid (Below w.heap.size w wo) := B1.out.trans (quiet_below HQ.out _)
        have HCO := Lib.hid hCo
        have HXO := Lib.hid hXo
        clear hCo hXo HC HX B1 HQ
        go_loopw [10, 11] (fun v i wr => ∃ k : Nat, i = .int .i64 k ∧ k ≤ zs.length ∧ Hid (Own wr wo.heap.size v (otherL zs T k)) ∧ Hid (Below wo.heap.size wo wr)) (fun _ i _ => zs.length - (intOf i).toNat)
        case atStart => exact ⟨0, rfl, Nat.zero_le _, World.ownsRow_nil _ _ _ _, Below.refl _ _⟩
        case round =>
          obtain ⟨k, rfl, hk, HO, HB⟩ := hrel
          have hle := otherL_le zs T k
          have hsz := HB.out.size
          by_cases hlt : k < zs.length
          · obtain ⟨P, hP⟩ : ∃ P, P = (zs.length - 1 - k + T) % zs.length := ⟨_, rfl⟩
            have hpl : P < zs.length := by rw [hP]; exact Nat.mod_lt _ (by omega)
            have hpi : ((zs.length : Int) - 1 - k + T) % zs.length = P := by
              rw [hP, Int.natCast_emod]; congr 1; omega
            have hCr := HCO.out.below HB.out
            obtain ⟨b1, off1, p, ha1, HP, hcp⟩ := hCr.at hpl
            obtain ⟨b2, off2, q, ha2, HQ2, hcq⟩ := hCr.at hlt
            have HOA : Hid (otherAt zs T k = p) := by
              unfold Hid otherAt
              rw [← hP]
              have h1 := getD_some zs 0 P hpl
              rw [HP.out] at h1
              exact (Option.some.inj h1).symm
            have HQA : Hid (zs.getD k 0 = q) := by
              have h1 := getD_some zs 0 k hlt
              rw [HQ2.out] at h1
              exact (Option.some.inj h1).symm
            have hCb : b1 < wo.heap.size := by
              rcases HCO.out with h | ⟨b', off', ha', hs', _⟩
              · omega
              · rw [ha1] at ha'; injection ha' with ha'; injection ha' with ha'; omega
            subst ha1
            injection ha2 with ha2
            injection ha2 with ha2 ha3
            subst ha2; subst ha3
            clear hP hCr
            go_wp2_with (at_builtin; refine wpList_append_own _ rfl _ _ 22 rfl wo.heap.size 3 i0 (.int .i64 0) 1 8 Try.underlying22 hi hz0 hz1 hz2 rfl (by decide) _ _ _ rfl (World.ownsRow.alloc HO.out _) ⟨wr.heap.size, 0, none⟩ 1 1 [.int .i64 p] rfl rfl (one_new (by rfl)) one_int ?e3 ?e4 ?e5 ?_)
            case e3 => unfold maxLen; omega
            case e4 => omega
            case e5 => first | omega | (simp; omega)
            intro v' w2 hown' hgrow _
            have R1 := Lib.hid (Own.of (zs := otherL zs T k ++ [p]) hown' (by simp) (by simp))
            have R2 := Lib.hid (Own.below HO.out HB.out hsz hgrow)
            have hcq2 : w2.cell? ⟨b1, off1 + k, none⟩ = some (.int .i64 q) := by
              have e1 : wr.cell? ⟨b1, off1 + k, none⟩ = wo.cell? ⟨b1, off1 + k, none⟩ := HB.out.cell (p := ⟨b1, off1 + k, none⟩) hCb
              rw [R2.out.cell (p := ⟨b1, off1 + k, none⟩) hCb, ← e1]; exact hcq
            clear hown' hgrow HO HB hpi hcp hcq
            by_cases h3 : k % 3 = 1
            · have g1 : ((k : Int) % 3 == 1) = true := by simp; omega
              have R3 : Hid (otherL zs T k ++ [p] ++ [q] = otherL zs T (k + 1)) := by unfold Hid; rw [otherL_two h3, HOA.out, HQA.out]
              have hsz2 := R2.out.size
              clear h3
              go_wp2_with (at_builtin; refine wpList_append_own _ rfl _ _ 22 rfl wo.heap.size 3 i0 (.int .i64 0) 1 8 Try.underlying22 hi hz0 hz1 hz2 rfl (by decide) _ _ _ rfl (World.ownsRow.alloc R1.out _) ⟨w2.heap.size, 0, none⟩ 1 1 [.int .i64 q] rfl rfl (one_new (by rfl)) one_int ?d3 ?d4 ?d5 ?_)
              case d3 => unfold maxLen; first | omega | (simp; omega)
              case d4 => first | omega | (simp; omega)
              case d5 => first | omega | (simp; omega)
              intro v'' w3 hown' hgrow _
              have R4 := Lib.hid (Own.of (zs := otherL zs T (k + 1)) hown' (by rw [← R3.out]; simp) (by rw [← R3.out]; simp))
              have R5 := Lib.hid (Own.below R1.out R2.out hsz2 hgrow)
              clear hown' hgrow R1 R2
              go_wp2
              go_roundw
              case rel => exact ⟨k + 1, by go_num, by omega, R4, R5⟩
              case measure => simp [intOf]; omega
            · have g1 : ((k : Int) % 3 == 1) = false := by simp; omega
              have R3 : Hid (Own w2 wo.heap.size v' (otherL zs T (k + 1))) := by unfold Hid; rw [otherL_one h3, HOA.out]; exact R1.out
              clear h3 R1
              go_wp2
              go_roundw
              case rel => exact ⟨k + 1, by go_num, by omega, R3, R2⟩
              case measure => simp [intOf]; omega
          · obtain rfl : k = zs.length := by omega
            obtain ⟨ao, co, rfl, hRo⟩ := HO.out.reads
            have hXr := HXO.out.below HB.out
            have BR := Lib.hid (BO.out.trans (HB.out.mono BO.out.size))
            obtain ⟨no, hno⟩ : ∃ no, (otherL zs T zs.length).length = no := ⟨_, rfl⟩
            rw [hno] at hle ⊢
            have HNO := Lib.hid hno
            clear hno HO HB HXO HCO BO hsz
            go_wp2_with fail
            refine (norm_is HNO.out HN.out HOT.out ao co wr (by omega) hRo).mono ?_
            rintro e w3 ⟨a3, c3, rfl, hY, hB3⟩
            have hX3 := hXr.below hB3
            have B3 := Lib.hid (BR.out.trans (hB3.mono BR.out.size))
            clear hRo hXr hB3 BR
            go_wp2_with fail
            refine (norm_is HN.out HN.out HAG.out a1 c1 w3 (by omega) hX3).mono ?_
            rintro e w4 ⟨a4, c4, rfl, hZ, hB4⟩
            have hX4 := hX3.below hB4
            have hY4 := hY.below hB4
            have B4 := Lib.hid (B3.out.trans (hB4.mono B3.out.size))
            clear hX3 hY hB4 B3
            go_wp2_with fail
            refine (equal_self HN.out a1 a3 c1 c3 w4 (by unfold maxLen; omega) hX4 hY4).mono ?_
            rintro e w5 ⟨rfl, hB5⟩
            have hX5 := hX4.below hB5
            have hZ5 := hZ.below hB5
            have B5 := Lib.hid (B4.out.trans (hB5.mono B4.out.size))
            clear hX4 hY4 hZ hB5 B4
            go_wp2_with fail
            refine (equal_self HN.out a1 a4 c1 c4 w5 (by unfold maxLen; omega) hX5 hZ5).mono ?_
            rintro e w6 ⟨rfl, hB6⟩
            have B6 := Lib.hid (B5.out.trans (hB6.mono B5.out.size))
            clear hX5 hZ5 hB6 B5
            go_wp2_with fail
            refine (known_any _).mono ?_
            rintro e w7 ⟨rfl, hB7⟩
            go_wp2
            go_ret
            exact ⟨rfl, B6.out.trans (hB7.mono B6.out.size)⟩
end Go.Proofs.Ytiddnahipdlgkaa
