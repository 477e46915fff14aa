/-
  Layer word: the reference.
-/
import Derived.Test.YtldcekejbnhloaaDoorWrdF
set_option linter.unusedSectionVars false
set_option linter.unusedVariables false
namespace Go.Proofs.YtldcekejbnhloaaDoor.Words
open Go.RowKit Go.Lib Ops
open Go.RowKit (Below)

theorem u64_of {W : Nat} (h : W ≤ 64) : IntKind.u64.wrap (W : Int) = W := wrap_nat W (by omega)
theorem top_div {W v : Nat} (h1 : 1 ≤ W) (hv : v < 2 ^ W) : (((v : Int) / 2 ^ (W - 1)) == 1) = decide (2 ^ (W - 1) ≤ v) := by
  have hp : ((2 : Int) ^ (W - 1)) = ((2 ^ (W - 1) : Nat) : Int) := by rw [Int.natCast_pow]; rfl
  have hh := two_half h1
  have hq := two_pos (W - 1)
  rw [hp, ← Int.natCast_ediv]
  rw [hh] at hv
  generalize 2 ^ (W - 1) = M at *
  by_cases hs : M ≤ v
  · have : v / M = 1 := by rw [Nat.div_eq_iff hq]; omega
    rw [this]; simpa using hs
  · rw [Nat.div_eq_of_lt (by omega)]; simp; omega
theorem rtop_is {W : Nat} (h1 : 1 ≤ W) (h : W ≤ 64) (v : Nat) (hv : v < 2 ^ W) (w : World) : Calls Tryd.prog 35 #[.int .i64 (W : Int), .int .u64 (v : Int)] w fun e w' => e = .returned (.bool (decide (2 ^ (W - 1) ≤ v))) ∧ w = w' := by
  have HT := Lib.hid (top_div h1 hv)
  have hw : IntKind.i64.wrap ((W : Int) - 1) = (W : Int) - 1 := by simp [IntKind.wrap, IntKind.bits, IntKind.signed]; omega
  have hw2 : IntKind.u64.wrap ((W : Int) - 1) = (W : Int) - 1 := by rw [wrapU]; omega
  have hs2 : (0 : Int) ≤ (W : Int) - 1 := by omega
  go_enter Tryd.func35, Tryd.ntmps35
  go_wp2
  go_ret
  exact ⟨by rw [← HT.out]; rfl, rfl⟩
theorem rtrim_is {W : Nat} (h1 : 1 ≤ W) (h : W ≤ 64) (v : Nat) (hv : v < 18446744073709551616) (w : World) : Calls Tryd.prog 32 #[.int .i64 (W : Int), .int .u64 (v : Int)] w fun e w' => e = .returned (.int .u64 (v % 2 ^ W : Nat)) ∧ w = w' := by
  have hw2 : IntKind.u64.wrap (W : Int) = (W : Int) := u64_of h
  by_cases h64 : W = 64
  · obtain rfl : W = 64 := h64
    have e : v % 2 ^ 64 = v := Nat.mod_eq_of_lt (by rw [two64]; exact hv)
    rw [e]
    go_enter Tryd.func32, Tryd.ntmps32
    go_wp2
    go_ret
    exact ⟨rfl, rfl⟩
  · have hlt : 2 ^ W < 18446744073709551616 := by rw [← two64]; exact Nat.pow_lt_pow_right (by decide) (by omega)
    have hp : IntKind.u64.wrap (2 ^ W) = ((2 ^ W : Nat) : Int) := by
      rw [show ((2 : Int) ^ W) = ((2 ^ W : Nat) : Int) by rw [Int.natCast_pow]; rfl]
      exact wrap_nat _ hlt
    have hq := two_pos W
    obtain ⟨M, hM⟩ : ∃ M, 2 ^ W = M := ⟨_, rfl⟩
    rw [hM] at hp hq ⊢
    have hq2 : ¬ (M : Int) = 0 := by omega
    have hq3 : ¬ M = 0 := by omega
    clear hM hlt hv
    go_enter Tryd.func32, Tryd.ntmps32
    go_wp2
    go_ret
    exact ⟨ret_int (by rw [Int.natCast_emod]), rfl⟩
theorem rbit_is (p : Bool) (w : World) : Calls Tryd.prog 60 #[.bool p] w fun e w' => e = .returned (.int .u64 (bitN p : Nat)) ∧ w = w' := by
  cases p
  all_goals
    go_enter Tryd.func60, Tryd.ntmps60
    go_wp2
    go_ret
    exact ⟨rfl, rfl⟩
theorem rtrim_wrap {W : Nat} (h1 : 1 ≤ W) (h : W ≤ 64) (x : Int) (w : World) (r : Nat) (hr : ((r : Nat) : Int) = x % (2 ^ W : Nat)) : Calls Tryd.prog 32 #[.int .i64 (W : Int), .int .u64 (IntKind.u64.wrap x)] w fun e w' => e = .returned (.int .u64 (r : Int)) ∧ w = w' := by
  obtain ⟨n, hn, hlt, he⟩ := wrap_low h x r hr
  rw [hn, ← he]
  exact rtrim_is h1 h n hlt w
theorem rless_is {W : Nat} (h1 : 1 ≤ W) (h : W ≤ 64) (a b : Nat) (ha : a < 2 ^ W) (hb : b < 2 ^ W) (w : World) : Calls Tryd.prog 61 #[.int .i64 (W : Int), .int .u64 (a : Int), .int .u64 (b : Int)] w fun e w' => e = .returned (.bool (decide (sgn W a < sgn W b))) ∧ w = w' := by
  have KA := Lib.hid (rtop_is h1 h a ha w)
  have KB := Lib.hid (rtop_is h1 h b hb w)
  have hs : decide (sgn W a < sgn W b) = if decide (2 ^ (W - 1) ≤ a) != decide (2 ^ (W - 1) ≤ b) then decide (2 ^ (W - 1) ≤ a) else decide (a < b) := by
    have hh := two_half h1
    unfold sgn
    generalize 2 ^ W = M at *
    generalize 2 ^ (W - 1) = N at *
    by_cases x : N ≤ a <;> by_cases y : N ≤ b <;> simp [x, y] <;> (try split) <;> (try split) <;> (try simp) <;> omega
  rw [hs]
  obtain ⟨p, hp⟩ : ∃ p, decide (2 ^ (W - 1) ≤ a) = p := ⟨_, rfl⟩
  obtain ⟨q, hq⟩ : ∃ p, decide (2 ^ (W - 1) ≤ b) = p := ⟨_, rfl⟩
  rw [hp] at KA ⊢
  rw [hq] at KB ⊢
  clear hs hp hq ha hb h1 h
  cases p <;> cases q
  all_goals
    go_enter Tryd.func61, Tryd.ntmps61
    go_wp2_with (first | (go_at_call 35; with_reducible refine KA.out.mono ?_; rintro e w' ⟨rfl, rfl⟩) | (go_at_call 35; with_reducible refine KB.out.mono ?_; rintro e w' ⟨rfl, rfl⟩))
    go_ret
    exact ⟨rfl, rfl⟩
end Go.Proofs.YtldcekejbnhloaaDoor.Words
