/-
  Contracts of Small and of Check (program and reference).
-/
import Derived.Test.YtbljkbdbiceokaaCnfA
import Derived.Outline
namespace Go.Proofs.Ytbljkbdbiceokaa
open Go.RowKit Go.Lib
open Go.RowKit (Below)

set_option maxHeartbeats 1000000 in
theorem small_any (n : Int) (a : Option Addr) (c : Nat) (zss : List (List Int)) (w : World) (hm : zss.length ≤ maxLen) (hA : AllLen zss) (h : RowsR .i64 w a zss) :
    Calls Try.prog 21 #[.agg #[.int .i64 n, .slice a zss.length c]] w fun e w' => e = .returned (.bool (smallB zss)) ∧ Below w.heap.size w w' := by
  unfold maxLen at hm
  have HA := Lib.hid hA
  clear hA
  by_cases h60 : zss.length ≤ 60
  · have g60 : decide ((zss.length : Int) ≤ 60) = true := by simp; omega
    obtain ⟨o, ho⟩ : ∃ o : Obj, o = .cells #[.int .i64 n, .slice a zss.length c] 26 := ⟨_, rfl⟩
    have HR := Lib.hid (h.alloc (.cells #[.int .i64 n, .slice a zss.length c] 26))
    have HB := Lib.hid (boxed w (.cells #[.int .i64 n, .slice a zss.length c] 26))
    clear h ho
    go_enter Try.func21, Try.ntmps21
    go_wp2
    go_loop [3] (fun i => ∃ k : Nat, k ≤ zss.length ∧ i = .int .i64 k ∧ Hid (ShortTo zss k)) (fun i => zss.length - (intOf i).toNat)
    case atStart => exact ⟨0, Nat.zero_le _, rfl, fun j z hj => by omega⟩
    case round =>
      obtain ⟨k, hk, rfl, HS⟩ := hrel
      by_cases hlt : k < zss.length
      · obtain ⟨b, off, aj, cj, zs, rfl, hbs, HZ, hc, _⟩ := HR.out.at hlt
        have hzl := HA.out.at HZ.out
        unfold maxLen at hzl
        clear HR
        by_cases hl : zs.length ≤ 40
        · have hS := Lib.hid (HS.out.succ HZ.out hl)
          go_wp2
          go_round
          case rel => exact ⟨k + 1, by omega, by go_num, hS⟩
          case measure => simp [intOf]; omega
        · have hS := Lib.hid (smallB_long (show k < 60 by omega) HZ.out (by omega))
          go_wp2
          go_ret
          exact ⟨ret_bool hS.out.symm, HB.out⟩
      · obtain rfl : k = zss.length := by omega
        have hS := Lib.hid (smallB_yes h60 HS.out)
        go_wp2
        go_ret
        exact ⟨ret_bool hS.out.symm, HB.out⟩
  · have g60 : decide ((zss.length : Int) ≤ 60) = false := by simp; omega
    have hS := Lib.hid (smallB_many (zss := zss) (by omega))
    have HR := Lib.hid (h.alloc (.cells #[.int .i64 n, .slice a zss.length c] 26))
    have HB := Lib.hid (boxed w (.cells #[.int .i64 n, .slice a zss.length c] 26))
    clear h
    go_enter Try.func21, Try.ntmps21
    go_wp2
    go_loop [3] (fun i => ∃ k : Nat, k ≤ 60 ∧ i = .int .i64 k) (fun i => 60 - (intOf i).toNat)
    case atStart => exact ⟨0, Nat.zero_le _, rfl⟩
    case round =>
      obtain ⟨k, hk, rfl⟩ := hrel
      have hlt : k < zss.length := by omega
      by_cases hlt2 : k < 60
      · obtain ⟨b, off, aj, cj, zs, rfl, hbs, HZ, hc, _⟩ := HR.out.at hlt
        have hzl := HA.out.at HZ.out
        unfold maxLen at hzl
        clear HR
        by_cases hl : zs.length ≤ 40
        · go_wp2
          go_round
          case rel => exact ⟨k + 1, by omega, by go_num⟩
          case measure => simp [intOf]; omega
        · go_wp2
          go_ret
          exact ⟨ret_bool hS.out.symm, HB.out⟩
      · go_wp2
        go_ret
        exact ⟨ret_bool hS.out.symm, HB.out⟩

set_option maxHeartbeats 1000000 in
theorem checkF_any (n : Int) (a : Option Addr) (c : Nat) (zss : List (List Int)) (w : World) (hm : zss.length ≤ maxLen) (hA : AllLen zss) (h : RowsR .i64 w a zss) :
    Calls Try.prog 42 #[.agg #[.int .i64 n, .slice a zss.length c]] w fun e w' => e = .returned (.int .i64 (checkF n zss)) ∧ Below w.heap.size w w' := by
  unfold maxLen at hm
  have HA := Lib.hid hA
  clear hA
  have HR := Lib.hid (h.alloc (.cells #[.int .i64 n, .slice a zss.length c] 26))
  have HB := Lib.hid (boxed w (.cells #[.int .i64 n, .slice a zss.length c] 26))
  clear h
  by_cases hn : n < 0 ∨ 1048576 < n
  · have h0 : checkI n [] = 3 := by unfold checkI; rw [if_pos hn]
    have H0 := Lib.hid h0
    have HC := Lib.hid (checkF_out (zss := zss) hn)
    clear h0 hn HR HA
    go_enter Try.func42, Try.ntmps42
    go_wp2
    refine wp_scope_on 0 (by rfl) ?_
    intro J HJ
    go_wp2_with fail
    refine (check_is (zs := []) (l := 0) rfl H0.out none 0 _ (Nat.zero_le _) (.inl rfl)).mono ?_
    rintro e w1 ⟨rfl, rfl⟩
    go_wp2
    simp only [Exit.jump]
    go_ret
    exact ⟨ret_int HC.out.symm, HB.out⟩
  · have hn0 : 0 ≤ n := by omega
    have hn1 : n ≤ 1048576 := by omega
    have h0 : checkI n [] = 0 := by unfold checkI; rw [if_neg hn]; rfl
    have H0 := Lib.hid h0
    by_cases hl : 1048576 < zss.length
    · have HC := Lib.hid (checkF_long hn hl)
      clear h0 hn HA
      go_enter Try.func42, Try.ntmps42
      go_wp2
      refine wp_scope_on 0 (by rfl) ?_
      intro J HJ
      go_wp2_with fail
      refine (check_is (zs := []) (l := 0) rfl H0.out none 0 _ (Nat.zero_le _) (.inl rfl)).mono ?_
      rintro e w1 ⟨rfl, rfl⟩
      go_wp2
      simp only [Exit.jump]
      go_ret
      exact ⟨ret_int HC.out.symm, HB.out⟩
    · have HC := Lib.hid (checkF_in hn hl)
      have hl' : zss.length ≤ 1048576 := by omega
      clear h0 hn hl
      go_enter Try.func42, Try.ntmps42
      go_wp2
      refine wp_scope_on 0 (by rfl) ?_
      intro J HJ
      go_wp2_with fail
      refine (check_is (zs := []) (l := 0) rfl H0.out none 0 _ (Nat.zero_le _) (.inl rfl)).mono ?_
      rintro e w1 ⟨rfl, rfl⟩
      go_wp2
      go_loop [3, 19] (fun v i => ∃ k : Nat, k ≤ zss.length ∧ i = .int .i64 k ∧ v = .int .i64 0 ∧ Hid (FineTo n zss k)) (fun _ i => zss.length - (intOf i).toNat)
      case atStart => exact ⟨0, Nat.zero_le _, rfl, rfl, fun j z hj => by omega⟩
      case round =>
        obtain ⟨k, hk, rfl, rfl, HS⟩ := hrel
        by_cases hlt : k < zss.length
        · obtain ⟨b, off, aj, cj, zs, rfl, hbs, HZ, hc, HK⟩ := HR.out.at hlt
          have hzl := HA.out.at HZ.out
          clear HR HA
          by_cases hv : checkI n zs = 0
          · have hS := Lib.hid (HS.out.succ HZ.out hv)
            have HV := Lib.hid hv
            clear hv
            go_wp2_with fail
            refine (check_is (zs := zs) rfl HV.out aj cj _ hzl HK.out).mono ?_
            rintro e w1 ⟨rfl, rfl⟩
            go_wp2
            go_round
            case rel => exact ⟨k + 1, by omega, by go_num, rfl, hS⟩
            case measure => simp [intOf]; omega
          · have hS := Lib.hid (errs_at HS.out HZ.out hv)
            obtain ⟨r, hr⟩ : ∃ r, checkI n zs = r := ⟨_, rfl⟩
            have hr0 : r ≠ 0 := by rw [← hr]; exact hv
            have e1 : (r != 0) = true := by simp [hr0]
            have HV := Lib.hid hr
            clear hv hr
            go_wp2_with fail
            refine (check_is (zs := zs) rfl HV.out aj cj _ hzl HK.out).mono ?_
            rintro e w1 ⟨rfl, rfl⟩
            go_wp2
            go_step3
            refine ⟨rfl, HJ.out _ _ ?_⟩
            go_wp2
            rw [Exit.noGoto_ret]
            go_ret
            exact ⟨ret_int (by rw [HC.out, hS.out, HV.out]), HB.out⟩
        · obtain rfl : k = zss.length := by omega
          have hS := Lib.hid (errs_none HS.out)
          clear HR HA
          go_wp2
          go_step3
          go_wp2
          simp only [Exit.jump]
          go_ret
          exact ⟨ret_int (by rw [HC.out, hS.out]), HB.out⟩
end Go.Proofs.Ytbljkbdbiceokaa
