/-
  Contracts of Holds (program and reference) and of 'has'.
-/
import Derived.Test.YtbljkbdbiceokaaLitB
import Derived.Deep.QuietTactic
import Derived.BigQuiet
namespace Go.Proofs.Ytbljkbdbiceokaa
open Go.RowKit Go.Lib

/-- Whether a literal holds in a model. -/
def holdsL (m : List Bool) (x : Int) : Bool := decide (0 < au x) && decide (au x ≤ m.length) && (m.getD ((au x).toNat - 1) false == decide (0 < x))
theorem holdsL_zero (m : List Bool) (x : Int) (h : au x = 0) : holdsL m x = false := by unfold holdsL; rw [h]; rfl
theorem holdsL_far (m : List Bool) (x : Int) (h : (m.length : Int) < au x) : holdsL m x = false := by
  unfold holdsL; rw [decide_eq_false (show ¬ au x ≤ m.length by omega)]; simp
theorem holdsL_at (m : List Bool) (x : Int) (n : Nat) (y : Bool) (h : au x = (n : Int) + 1) (hy : m[n]? = some y) : holdsL m x = (y == decide (0 < x)) := by
  obtain ⟨hn, rfl⟩ := List.getElem?_eq_some_iff.1 hy
  unfold holdsL
  rw [h, decide_eq_true (show (0 : Int) < (n : Int) + 1 by omega), decide_eq_true (show (n : Int) + 1 ≤ m.length by omega), show ((n : Int) + 1).toNat - 1 = n by omega]
  simp [List.getD, List.getElem?_eq_getElem hn]
theorem variable_is (x v : Int) (h : Hid (au x = v)) (w : World) : Calls Try.prog 43 #[.int .i64 x] w fun e w' => e = .returned (.int .u64 v) ∧ w = w' := by
  have := variable_any x w; rw [h.out] at this; exact this
theorem size_is (x v : Int) (h : Hid (au x = v)) (w : World) : Calls Try.prog 52 #[.int .i64 x] w fun e w' => e = .returned (.int .u64 v) ∧ w = w' := by
  have := size_any x w; rw [h.out] at this; exact this
theorem any_step {α : Type} (p : α → Bool) (zs : List α) (k : Nat) (x : α) (ha : (zs.take k).any p = false) (hx : zs[k]? = some x) (h : p x = false) : (zs.take (k + 1)).any p = false := by
  rw [take_any_succ _ _ _ _ hx, ha, h]; rfl
theorem any_done {α : Type} (p : α → Bool) (zs : List α) (k : Nat) (ha : (zs.take k).any p = false) (h : ¬ k < zs.length) : zs.any p = false := by
  rwa [List.take_of_length_le (by omega)] at ha

set_option maxHeartbeats 1000000 in
theorem holds_any (a c : Option Addr) (ca cc : Nat) (m : List Bool) (zs : List Int) (w : World) (hmm : m.length ≤ maxLen) (hm : zs.length ≤ maxLen) (hM : BoolsR w a m) (h : IntsR w c zs) :
    Calls Try.prog 26 #[.slice a m.length ca, .slice c zs.length cc] w fun e w' => e = .returned (.bool (zs.any (holdsL m))) ∧ w = w' := by
  unfold maxLen at hm hmm
  go_enter Try.func26, Try.ntmps26
  go_wp2
  go_loop [10] (fun i => ∃ k : Nat, k ≤ zs.length ∧ i = .int .i64 k ∧ (zs.take k).any (holdsL m) = false) (fun i => zs.length - (intOf i).toNat)
  case atStart => exact ⟨0, Nat.zero_le _, rfl, by simp⟩
  case round =>
    obtain ⟨k, hk, rfl, hany⟩ := hrel
    have Ha := Lib.hid hany
    clear hany
    by_cases hlt : k < zs.length
    · obtain ⟨b, off, x, rfl, hx, hcell⟩ := h.at hlt
      clear h
      by_cases hv0 : au x = 0
      · have H0 := Lib.hid hv0
        clear hv0
        have hA := Lib.hid (any_step _ _ _ _ Ha.out hx.out (holdsL_zero m x H0.out))
        go_wp2_with (go_at_call 43; refine (variable_is _ _ H0 _).mono ?_; rintro e w' ⟨rfl, rfl⟩)
        go_round
        case rel => exact ⟨k + 1, by omega, by go_num, hA.out⟩
        case measure => simp [intOf]; omega
      by_cases hvl : (m.length : Int) < au x
      · have hA := Lib.hid (any_step _ _ _ _ Ha.out hx.out (holdsL_far m x hvl))
        have hr := au_range x
        have hne : (au x == 0) = false := by simp [hv0]
        go_wp2_with (go_at_call 43; refine (variable_any _ _).mono ?_; rintro e w' ⟨rfl, rfl⟩)
        go_round
        case rel => exact ⟨k + 1, by omega, by go_num, hA.out⟩
        case measure => simp [intOf]; omega
      obtain ⟨n, hn⟩ : ∃ n : Nat, au x = (n : Int) + 1 := ⟨(au x).toNat - 1, by have := au_range x; omega⟩
      have hnl : n < m.length := by omega
      obtain ⟨bm, om, y, rfl, hy, hcm⟩ := hM.at hnl
      clear hM hv0 hvl
      have hL := holdsL_at m x n y hn hy.out
      have HN := Lib.hid hn
      clear hn
      have h1n : ((n : Int) + 1 == 0) = false := by simp; omega
      have h2n : (n : Int) + 1 ≤ m.length := by omega
      by_cases hp : 0 < x
      · rw [decide_eq_true hp] at hL
        cases y
        · have hA := Lib.hid (any_step _ _ _ _ Ha.out hx.out hL)
          clear hL
          go_wp2_with (go_at_call 43; refine (variable_is _ _ HN _).mono ?_; rintro e w' ⟨rfl, rfl⟩)
          go_round
          case rel => exact ⟨k + 1, by omega, by go_num, hA.out⟩
          case measure => simp [intOf]; omega
        · have hA := Lib.hid (any_of_at _ _ _ _ hx.out hL)
          clear hL
          go_wp2_with (go_at_call 43; refine (variable_is _ _ HN _).mono ?_; rintro e w' ⟨rfl, rfl⟩)
          go_ret
          exact ⟨ret_bool hA.out.symm, rfl⟩
      · rw [decide_eq_false hp] at hL
        have e1 : decide (0 < x) = false := decide_eq_false hp
        have e2 : ((n : Int) + 1 != 0) = true := by simp; omega
        clear hp
        cases y
        · have hA := Lib.hid (any_of_at _ _ _ _ hx.out hL)
          clear hL
          go_wp2_with (go_at_call 43; refine (variable_is _ _ HN _).mono ?_; rintro e w' ⟨rfl, rfl⟩)
          go_ret
          exact ⟨ret_bool hA.out.symm, rfl⟩
        · have hA := Lib.hid (any_step _ _ _ _ Ha.out hx.out hL)
          clear hL
          go_wp2_with (go_at_call 43; refine (variable_is _ _ HN _).mono ?_; rintro e w' ⟨rfl, rfl⟩)
          go_round
          case rel => exact ⟨k + 1, by omega, by go_num, hA.out⟩
          case measure => simp [intOf]; omega
    · have HA := Lib.hid (any_done _ _ _ Ha.out hlt)
      go_wp2
      go_ret
      exact ⟨ret_bool HA.out.symm, rfl⟩

end Go.Proofs.Ytbljkbdbiceokaa
