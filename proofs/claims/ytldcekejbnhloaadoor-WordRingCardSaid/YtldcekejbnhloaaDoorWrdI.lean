/-
  Layer word: the reference's results, its Apply, Trim and Signed.
-/
import Derived.Test.YtldcekejbnhloaaDoorWrdH
set_option linter.unusedSectionVars false
set_option linter.unusedVariables false
namespace Go.Proofs.YtldcekejbnhloaaDoor.Words
open Go.RowKit Go.Lib Ops
open Go.RowKit (Below)

section
variable {W a b c : Nat} (h1 : 1 ≤ W) (h : W ≤ 64) (ha : a < 2 ^ W) (hb : b < 2 ^ W) (hc : c < 2 ^ W) (w : World)
include h1 h ha hb
theorem rr_7 : Calls Tryd.prog 39 #[.int .u8 7, .int .i64 (W : Int), .int .u64 (a : Int), .int .u64 (b : Int)] w fun e w' => Raw W 7 a b c e ∧ w = w' := by
  by_cases h0 : b = 0
  · have HR := Lib.hid (ro_div0 (c := c) h ha h0)
    clear h1 h ha hb
    go_enter Tryd.func39, Tryd.ntmps39
    go_wp2
    go_ret
    exact ⟨HR.out, rfl⟩
  · have HR := Lib.hid (ro_div (c := c) h ha h0)
    clear h1 h ha hb
    go_enter Tryd.func39, Tryd.ntmps39
    go_wp2
    go_ret
    exact ⟨HR.out, rfl⟩
theorem rr_8 : Calls Tryd.prog 39 #[.int .u8 8, .int .i64 (W : Int), .int .u64 (a : Int), .int .u64 (b : Int)] w fun e w' => Raw W 8 a b c e ∧ w = w' := by
  by_cases h0 : b = 0
  · have HR := Lib.hid (show Raw W 8 a b c (.returned (.int .u64 (a : Int))) from Raw.word h ha (by show a = a % b; rw [h0, Nat.mod_zero]))
    clear h1 h ha hb
    go_enter Tryd.func39, Tryd.ntmps39
    go_wp2
    go_ret
    exact ⟨HR.out, rfl⟩
  · have HR := Lib.hid (ro_rem (b := b) (c := c) h ha)
    clear h1 h ha hb
    go_enter Tryd.func39, Tryd.ntmps39
    go_wp2
    go_ret
    exact ⟨HR.out, rfl⟩
theorem rr_15 : Calls Tryd.prog 39 #[.int .u8 15, .int .i64 (W : Int), .int .u64 (a : Int), .int .u64 (b : Int)] w fun e w' => Raw W 15 a b c e ∧ w = w' := by
  have HR := Lib.hid (ro_eq (a := a) (b := b) (c := c) h1 h)
  clear h1 h ha hb
  go_enter Tryd.func39, Tryd.ntmps39
  go_wp2_with (go_at_call 60; refine (rbit_is _ _).mono ?_; rintro e w' ⟨rfl, rfl⟩)
  go_ret
  exact ⟨HR.out, rfl⟩
theorem rr_16 : Calls Tryd.prog 39 #[.int .u8 16, .int .i64 (W : Int), .int .u64 (a : Int), .int .u64 (b : Int)] w fun e w' => Raw W 16 a b c e ∧ w = w' := by
  have HR := Lib.hid (ro_ne (a := a) (b := b) (c := c) h1 h)
  clear h1 h ha hb
  go_enter Tryd.func39, Tryd.ntmps39
  go_wp2_with (go_at_call 60; refine (rbit_is _ _).mono ?_; rintro e w' ⟨rfl, rfl⟩)
  go_ret
  exact ⟨HR.out, rfl⟩
theorem rr_17 : Calls Tryd.prog 39 #[.int .u8 17, .int .i64 (W : Int), .int .u64 (a : Int), .int .u64 (b : Int)] w fun e w' => Raw W 17 a b c e ∧ w = w' := by
  have HR := Lib.hid (ro_lt (a := a) (b := b) (c := c) h1 h)
  clear h1 h ha hb
  go_enter Tryd.func39, Tryd.ntmps39
  go_wp2_with (go_at_call 60; refine (rbit_is _ _).mono ?_; rintro e w' ⟨rfl, rfl⟩)
  go_ret
  exact ⟨HR.out, rfl⟩
theorem rr_18 : Calls Tryd.prog 39 #[.int .u8 18, .int .i64 (W : Int), .int .u64 (a : Int), .int .u64 (b : Int)] w fun e w' => Raw W 18 a b c e ∧ w = w' := by
  have HR := Lib.hid (ro_le (a := a) (b := b) (c := c) h1 h)
  clear h1 h ha hb
  go_enter Tryd.func39, Tryd.ntmps39
  go_wp2_with (go_at_call 60; refine (rbit_is _ _).mono ?_; rintro e w' ⟨rfl, rfl⟩)
  go_ret
  exact ⟨HR.out, rfl⟩
theorem rr_19 : Calls Tryd.prog 39 #[.int .u8 19, .int .i64 (W : Int), .int .u64 (a : Int), .int .u64 (b : Int)] w fun e w' => Raw W 19 a b c e ∧ w = w' := by
  have HR := Lib.hid (ro_slt (a := a) (b := b) (c := c) h1 h)
  have KL := Lib.hid (rless_is h1 h a b ha hb w)
  obtain ⟨p, hp⟩ : ∃ p, decide (sgn W a < sgn W b) = p := ⟨_, rfl⟩
  rw [hp] at KL HR
  clear hp
  clear h1 h ha hb
  go_enter Tryd.func39, Tryd.ntmps39
  go_wp2_with (first | (go_at_call 61; refine KL.out.mono ?_; rintro e w' ⟨rfl, rfl⟩) | (go_at_call 60; refine (rbit_is _ _).mono ?_; rintro e w' ⟨rfl, rfl⟩))
  go_ret
  exact ⟨HR.out, rfl⟩
theorem rr_20 : Calls Tryd.prog 39 #[.int .u8 20, .int .i64 (W : Int), .int .u64 (a : Int), .int .u64 (b : Int)] w fun e w' => Raw W 20 a b c e ∧ w = w' := by
  have HR := Lib.hid (show Raw W 20 a b c (.returned (.int .u64 ((bitN (!(decide (sgn W b < sgn W a))) : Nat) : Int))) from ro_bit h1 h 20 _ (by show _ = bitN (decide (sgn W a ≤ sgn W b)); congr 1; rw [Bool.eq_iff_iff]; simp))
  have KL := Lib.hid (rless_is h1 h b a hb ha w)
  obtain ⟨p, hp⟩ : ∃ p, decide (sgn W b < sgn W a) = p := ⟨_, rfl⟩
  rw [hp] at KL HR
  clear hp
  clear h1 h ha hb
  go_enter Tryd.func39, Tryd.ntmps39
  go_wp2_with (first | (go_at_call 61; refine KL.out.mono ?_; rintro e w' ⟨rfl, rfl⟩) | (go_at_call 60; refine (rbit_is _ _).mono ?_; rintro e w' ⟨rfl, rfl⟩))
  go_ret
  exact ⟨HR.out, rfl⟩
theorem rr_all (o : Nat) (ho : o = 7 ∨ o = 8 ∨ (15 ≤ o ∧ o < 21)) : Calls Tryd.prog 39 #[.int .u8 (o : Int), .int .i64 (W : Int), .int .u64 (a : Int), .int .u64 (b : Int)] w fun e w' => Raw W o a b c e ∧ w = w' := by
  rcases (show o = 7 ∨ o = 8 ∨ o = 15 ∨ o = 16 ∨ o = 17 ∨ o = 18 ∨ o = 19 ∨ o = 20 by omega) with rfl | rfl | rfl | rfl | rfl | rfl | rfl | rfl
  · exact rr_7 h1 h ha hb w
  · exact rr_8 h1 h ha hb w
  · exact rr_15 h1 h ha hb w
  · exact rr_16 h1 h ha hb w
  · exact rr_17 h1 h ha hb w
  · exact rr_18 h1 h ha hb w
  · exact rr_19 h1 h ha hb w
  · exact rr_20 h1 h ha hb w
theorem rs_2 : Calls Tryd.prog 33 #[.int .u8 2, .int .i64 (W : Int), .int .u64 (a : Int), .int .u64 (b : Int), .int .u64 (c : Int)] w fun e w' => Raw W 2 a b c e ∧ w = w' := by
  have HR := Lib.hid (ro_not (b := b) (c := c) h ha)
  clear h1 h ha hb
  go_enter Tryd.func33, Tryd.ntmps33
  go_wp2
  go_ret
  exact ⟨HR.out, rfl⟩
theorem rs_3 : Calls Tryd.prog 33 #[.int .u8 3, .int .i64 (W : Int), .int .u64 (a : Int), .int .u64 (b : Int), .int .u64 (c : Int)] w fun e w' => Raw W 3 a b c e ∧ w = w' := by
  have HR := Lib.hid (ro_neg (b := b) (c := c) h ha)
  clear h1 h ha hb
  go_enter Tryd.func33, Tryd.ntmps33
  go_wp2
  go_ret
  exact ⟨HR.out, rfl⟩
theorem rs_4 : Calls Tryd.prog 33 #[.int .u8 4, .int .i64 (W : Int), .int .u64 (a : Int), .int .u64 (b : Int), .int .u64 (c : Int)] w fun e w' => Raw W 4 a b c e ∧ w = w' := by
  have HR := Lib.hid (ro_add (b := b) (c := c) h ha)
  clear h1 h ha hb
  go_enter Tryd.func33, Tryd.ntmps33
  go_wp2
  go_ret
  exact ⟨HR.out, rfl⟩
theorem rs_5 : Calls Tryd.prog 33 #[.int .u8 5, .int .i64 (W : Int), .int .u64 (a : Int), .int .u64 (b : Int), .int .u64 (c : Int)] w fun e w' => Raw W 5 a b c e ∧ w = w' := by
  have HR := Lib.hid (ro_sub (c := c) h ha hb)
  clear h1 h ha hb
  go_enter Tryd.func33, Tryd.ntmps33
  go_wp2
  go_ret
  exact ⟨HR.out, rfl⟩
theorem rs_6 : Calls Tryd.prog 33 #[.int .u8 6, .int .i64 (W : Int), .int .u64 (a : Int), .int .u64 (b : Int), .int .u64 (c : Int)] w fun e w' => Raw W 6 a b c e ∧ w = w' := by
  have HR := Lib.hid (ro_mul (b := b) (c := c) h ha)
  clear h1 h ha hb
  go_enter Tryd.func33, Tryd.ntmps33
  go_wp2
  go_ret
  exact ⟨HR.out, rfl⟩
theorem rs_9 : Calls Tryd.prog 33 #[.int .u8 9, .int .i64 (W : Int), .int .u64 (a : Int), .int .u64 (b : Int), .int .u64 (c : Int)] w fun e w' => Raw W 9 a b c e ∧ w = w' := by
  have HR := Lib.hid (ro_and (c := c) h ha hb)
  clear h1 h ha hb
  go_enter Tryd.func33, Tryd.ntmps33
  go_wp2
  go_ret
  exact ⟨HR.out, rfl⟩
theorem rs_10 : Calls Tryd.prog 33 #[.int .u8 10, .int .i64 (W : Int), .int .u64 (a : Int), .int .u64 (b : Int), .int .u64 (c : Int)] w fun e w' => Raw W 10 a b c e ∧ w = w' := by
  have HR := Lib.hid (ro_or (c := c) h ha hb)
  clear h1 h ha hb
  go_enter Tryd.func33, Tryd.ntmps33
  go_wp2
  go_ret
  exact ⟨HR.out, rfl⟩
theorem rs_11 : Calls Tryd.prog 33 #[.int .u8 11, .int .i64 (W : Int), .int .u64 (a : Int), .int .u64 (b : Int), .int .u64 (c : Int)] w fun e w' => Raw W 11 a b c e ∧ w = w' := by
  have HR := Lib.hid (ro_xor (c := c) h ha hb)
  clear h1 h ha hb
  go_enter Tryd.func33, Tryd.ntmps33
  go_wp2
  go_ret
  exact ⟨HR.out, rfl⟩
theorem rs_12 : Calls Tryd.prog 33 #[.int .u8 12, .int .i64 (W : Int), .int .u64 (a : Int), .int .u64 (b : Int), .int .u64 (c : Int)] w fun e w' => Raw W 12 a b c e ∧ w = w' := by
  have h64 := two_le64 h
  have KS := Lib.hid (rshl_is h1 h a b ha (by omega) w)
  have HR := Lib.hid (show Raw W 12 a b c (.returned (.int .u64 (res W 12 a b 0 : Nat))) from Raw.word h (res_lt h1 ha hb (two_pos W)) rfl)
  obtain ⟨p, hp⟩ : ∃ p, res W 12 a b 0 = p := ⟨_, rfl⟩
  rw [hp] at KS HR
  clear h1 h ha hb hp h64
  go_enter Tryd.func33, Tryd.ntmps33
  go_wp2_with (go_at_call 38; refine KS.out.mono ?_; rintro e w' ⟨rfl, rfl⟩)
  go_ret
  exact ⟨HR.out, rfl⟩
theorem rs_13 : Calls Tryd.prog 33 #[.int .u8 13, .int .i64 (W : Int), .int .u64 (a : Int), .int .u64 (b : Int), .int .u64 (c : Int)] w fun e w' => Raw W 13 a b c e ∧ w = w' := by
  have h64 := two_le64 h
  have KS := Lib.hid (rshr_is h1 h a b ha (by omega) w)
  have HR := Lib.hid (show Raw W 13 a b c (.returned (.int .u64 (res W 13 a b 0 : Nat))) from Raw.word h (res_lt h1 ha hb (two_pos W)) rfl)
  obtain ⟨p, hp⟩ : ∃ p, res W 13 a b 0 = p := ⟨_, rfl⟩
  rw [hp] at KS HR
  clear h1 h ha hb hp h64
  go_enter Tryd.func33, Tryd.ntmps33
  go_wp2_with (go_at_call 38; refine KS.out.mono ?_; rintro e w' ⟨rfl, rfl⟩)
  go_ret
  exact ⟨HR.out, rfl⟩
theorem rs_14 : Calls Tryd.prog 33 #[.int .u8 14, .int .i64 (W : Int), .int .u64 (a : Int), .int .u64 (b : Int), .int .u64 (c : Int)] w fun e w' => Raw W 14 a b c e ∧ w = w' := by
  have h64 := two_le64 h
  have KS := Lib.hid (rsar_is h1 h a b ha (by omega) w)
  have HR := Lib.hid (show Raw W 14 a b c (.returned (.int .u64 (res W 14 a b 0 : Nat))) from Raw.word h (res_lt h1 ha hb (two_pos W)) rfl)
  obtain ⟨p, hp⟩ : ∃ p, res W 14 a b 0 = p := ⟨_, rfl⟩
  rw [hp] at KS HR
  clear h1 h ha hb hp h64
  go_enter Tryd.func33, Tryd.ntmps33
  go_wp2_with (go_at_call 38; refine KS.out.mono ?_; rintro e w' ⟨rfl, rfl⟩)
  go_ret
  exact ⟨HR.out, rfl⟩
include hc in
theorem rs_21 : Calls Tryd.prog 33 #[.int .u8 21, .int .i64 (W : Int), .int .u64 (a : Int), .int .u64 (b : Int), .int .u64 (c : Int)] w fun e w' => Raw W 21 a b c e ∧ w = w' := by
  by_cases h0 : a = 0
  · have HR := Lib.hid (show Raw W 21 a b c (.returned (.int .u64 (c : Int))) from Raw.word h hc (by show c = if a = 0 then c else b; rw [if_pos h0]))
    clear h1 h ha hb hc
    go_enter Tryd.func33, Tryd.ntmps33
    go_wp2
    go_ret
    exact ⟨HR.out, rfl⟩
  · have HR := Lib.hid (show Raw W 21 a b c (.returned (.int .u64 (b : Int))) from Raw.word h hb (by show b = if a = 0 then c else b; rw [if_neg h0]))
    clear h1 h ha hb hc
    go_enter Tryd.func33, Tryd.ntmps33
    go_wp2
    go_ret
    exact ⟨HR.out, rfl⟩
theorem rs_7 : Calls Tryd.prog 33 #[.int .u8 7, .int .i64 (W : Int), .int .u64 (a : Int), .int .u64 (b : Int), .int .u64 (c : Int)] w fun e w' => Raw W 7 a b c e ∧ w = w' := by
  have KR := Lib.hid (rr_7 (c := c) h1 h ha hb w)
  clear h1 h ha hb
  go_enter Tryd.func33, Tryd.ntmps33
  go_wp2_with (go_at_call 39; refine KR.out.mono ?_; rintro e w' ⟨⟨q, rfl, hq⟩, rfl⟩; have HQ := Lib.hid hq; clear hq)
  go_ret
  exact ⟨⟨q, rfl, HQ.out⟩, rfl⟩
theorem rs_8 : Calls Tryd.prog 33 #[.int .u8 8, .int .i64 (W : Int), .int .u64 (a : Int), .int .u64 (b : Int), .int .u64 (c : Int)] w fun e w' => Raw W 8 a b c e ∧ w = w' := by
  have KR := Lib.hid (rr_8 (c := c) h1 h ha hb w)
  clear h1 h ha hb
  go_enter Tryd.func33, Tryd.ntmps33
  go_wp2_with (go_at_call 39; refine KR.out.mono ?_; rintro e w' ⟨⟨q, rfl, hq⟩, rfl⟩; have HQ := Lib.hid hq; clear hq)
  go_ret
  exact ⟨⟨q, rfl, HQ.out⟩, rfl⟩
theorem rs_15 : Calls Tryd.prog 33 #[.int .u8 15, .int .i64 (W : Int), .int .u64 (a : Int), .int .u64 (b : Int), .int .u64 (c : Int)] w fun e w' => Raw W 15 a b c e ∧ w = w' := by
  have KR := Lib.hid (rr_15 (c := c) h1 h ha hb w)
  clear h1 h ha hb
  go_enter Tryd.func33, Tryd.ntmps33
  go_wp2_with (go_at_call 39; refine KR.out.mono ?_; rintro e w' ⟨⟨q, rfl, hq⟩, rfl⟩; have HQ := Lib.hid hq; clear hq)
  go_ret
  exact ⟨⟨q, rfl, HQ.out⟩, rfl⟩
theorem rs_16 : Calls Tryd.prog 33 #[.int .u8 16, .int .i64 (W : Int), .int .u64 (a : Int), .int .u64 (b : Int), .int .u64 (c : Int)] w fun e w' => Raw W 16 a b c e ∧ w = w' := by
  have KR := Lib.hid (rr_16 (c := c) h1 h ha hb w)
  clear h1 h ha hb
  go_enter Tryd.func33, Tryd.ntmps33
  go_wp2_with (go_at_call 39; refine KR.out.mono ?_; rintro e w' ⟨⟨q, rfl, hq⟩, rfl⟩; have HQ := Lib.hid hq; clear hq)
  go_ret
  exact ⟨⟨q, rfl, HQ.out⟩, rfl⟩
theorem rs_17 : Calls Tryd.prog 33 #[.int .u8 17, .int .i64 (W : Int), .int .u64 (a : Int), .int .u64 (b : Int), .int .u64 (c : Int)] w fun e w' => Raw W 17 a b c e ∧ w = w' := by
  have KR := Lib.hid (rr_17 (c := c) h1 h ha hb w)
  clear h1 h ha hb
  go_enter Tryd.func33, Tryd.ntmps33
  go_wp2_with (go_at_call 39; refine KR.out.mono ?_; rintro e w' ⟨⟨q, rfl, hq⟩, rfl⟩; have HQ := Lib.hid hq; clear hq)
  go_ret
  exact ⟨⟨q, rfl, HQ.out⟩, rfl⟩
theorem rs_18 : Calls Tryd.prog 33 #[.int .u8 18, .int .i64 (W : Int), .int .u64 (a : Int), .int .u64 (b : Int), .int .u64 (c : Int)] w fun e w' => Raw W 18 a b c e ∧ w = w' := by
  have KR := Lib.hid (rr_18 (c := c) h1 h ha hb w)
  clear h1 h ha hb
  go_enter Tryd.func33, Tryd.ntmps33
  go_wp2_with (go_at_call 39; refine KR.out.mono ?_; rintro e w' ⟨⟨q, rfl, hq⟩, rfl⟩; have HQ := Lib.hid hq; clear hq)
  go_ret
  exact ⟨⟨q, rfl, HQ.out⟩, rfl⟩
theorem rs_19 : Calls Tryd.prog 33 #[.int .u8 19, .int .i64 (W : Int), .int .u64 (a : Int), .int .u64 (b : Int), .int .u64 (c : Int)] w fun e w' => Raw W 19 a b c e ∧ w = w' := by
  have KR := Lib.hid (rr_19 (c := c) h1 h ha hb w)
  clear h1 h ha hb
  go_enter Tryd.func33, Tryd.ntmps33
  go_wp2_with (go_at_call 39; refine KR.out.mono ?_; rintro e w' ⟨⟨q, rfl, hq⟩, rfl⟩; have HQ := Lib.hid hq; clear hq)
  go_ret
  exact ⟨⟨q, rfl, HQ.out⟩, rfl⟩
theorem rs_20 : Calls Tryd.prog 33 #[.int .u8 20, .int .i64 (W : Int), .int .u64 (a : Int), .int .u64 (b : Int), .int .u64 (c : Int)] w fun e w' => Raw W 20 a b c e ∧ w = w' := by
  have KR := Lib.hid (rr_20 (c := c) h1 h ha hb w)
  clear h1 h ha hb
  go_enter Tryd.func33, Tryd.ntmps33
  go_wp2_with (go_at_call 39; refine KR.out.mono ?_; rintro e w' ⟨⟨q, rfl, hq⟩, rfl⟩; have HQ := Lib.hid hq; clear hq)
  go_ret
  exact ⟨⟨q, rfl, HQ.out⟩, rfl⟩
include hc in
theorem rs_all (o : Nat) (ho : okOp o) : Calls Tryd.prog 33 #[.int .u8 (o : Int), .int .i64 (W : Int), .int .u64 (a : Int), .int .u64 (b : Int), .int .u64 (c : Int)] w fun e w' => Raw W o a b c e ∧ w = w' := by
  unfold okOp at ho
  rcases (show o = 2 ∨ o = 3 ∨ o = 4 ∨ o = 5 ∨ o = 6 ∨ o = 7 ∨ o = 8 ∨ o = 9 ∨ o = 10 ∨ o = 11 ∨ o = 12 ∨ o = 13 ∨ o = 14 ∨ o = 15 ∨ o = 16 ∨ o = 17 ∨ o = 18 ∨ o = 19 ∨ o = 20 ∨ o = 21 by omega) with rfl | rfl | rfl | rfl | rfl | rfl | rfl | rfl | rfl | rfl | rfl | rfl | rfl | rfl | rfl | rfl | rfl | rfl | rfl | rfl
  · exact rs_2 h1 h ha hb w
  · exact rs_3 h1 h ha hb w
  · exact rs_4 h1 h ha hb w
  · exact rs_5 h1 h ha hb w
  · exact rs_6 h1 h ha hb w
  · exact rs_7 h1 h ha hb w
  · exact rs_8 h1 h ha hb w
  · exact rs_9 h1 h ha hb w
  · exact rs_10 h1 h ha hb w
  · exact rs_11 h1 h ha hb w
  · exact rs_12 h1 h ha hb w
  · exact rs_13 h1 h ha hb w
  · exact rs_14 h1 h ha hb w
  · exact rs_15 h1 h ha hb w
  · exact rs_16 h1 h ha hb w
  · exact rs_17 h1 h ha hb w
  · exact rs_18 h1 h ha hb w
  · exact rs_19 h1 h ha hb w
  · exact rs_20 h1 h ha hb w
  · exact rs_21 h1 h ha hb hc w
end
end Go.Proofs.YtldcekejbnhloaaDoor.Words
