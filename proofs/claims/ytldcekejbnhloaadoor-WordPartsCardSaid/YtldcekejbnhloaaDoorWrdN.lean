/-
  Layer word, plain: the lowest bits of results; and a calculator's calls with slices that lie elsewhere, for the law of the parts.
-/
import Derived.Test.YtldcekejbnhloaaDoorWrdM
set_option linter.unusedSectionVars false
set_option linter.unusedVariables false
namespace Go.Proofs.YtldcekejbnhloaaDoor.Words
open Go.RowKit Go.Lib Ops
open Go.RowKit (Below)

/-- The operators whose lowest bits come of the arguments' lowest bits. -/
def lowOp (o : Nat) : Prop := o = 4 ∨ o = 5 ∨ o = 6 ∨ o = 2 ∨ o = 3 ∨ o = 9 ∨ o = 10 ∨ o = 11
section
variable {W k : Nat} (hk : k ≤ W) (x y z : Nat)
include hk
theorem mm (n : Nat) : n % 2 ^ W % 2 ^ k = n % 2 ^ k := Nat.mod_mod_of_dvd _ (Nat.pow_dvd_pow 2 hk)
theorem parts_split : ∃ e, 2 ^ W - x % 2 ^ W = 2 ^ k * e + (2 ^ k - x % 2 ^ k) := by
  have hM : 2 ^ W = 2 ^ k * 2 ^ (W - k) := by rw [← Nat.pow_add, show k + (W - k) = W by omega]
  have h1 := mm hk x
  have hr : x % 2 ^ W < 2 ^ W := Nat.mod_lt _ (two_pos W)
  have hd := Nat.div_add_mod (x % 2 ^ W) (2 ^ k)
  have hm : x % 2 ^ W % 2 ^ k < 2 ^ k := Nat.mod_lt _ (two_pos k)
  have hdl : x % 2 ^ W / 2 ^ k < 2 ^ (W - k) := by rw [Nat.div_lt_iff_lt_mul (two_pos k), Nat.mul_comm, ← hM]; exact hr
  rw [h1] at hd hm
  generalize x % 2 ^ W = r at *
  generalize x % 2 ^ k = s at *
  generalize r / 2 ^ k = d at *
  obtain ⟨e, he⟩ : ∃ e, 2 ^ (W - k) = e + d + 1 := ⟨2 ^ (W - k) - d - 1, by omega⟩
  refine ⟨e, ?_⟩
  rw [he] at hM
  rw [hM, ← hd, Nat.mul_add, Nat.mul_add, Nat.mul_one]
  generalize 2 ^ k * e = a
  generalize 2 ^ k * d = b
  omega
theorem parts_low (o : Nat) (ho : lowOp o) : vv W o x y z % 2 ^ k = vv k o x y z := by
  have hp := two_pos k
  rcases ho with rfl | rfl | rfl | rfl | rfl | rfl | rfl | rfl
  · show (x % 2 ^ W + y % 2 ^ W) % 2 ^ W % 2 ^ k = (x % 2 ^ k + y % 2 ^ k) % 2 ^ k
    rw [mm hk, Nat.add_mod, mm hk, mm hk]
  · show (x % 2 ^ W + (2 ^ W - y % 2 ^ W)) % 2 ^ W % 2 ^ k = (x % 2 ^ k + (2 ^ k - y % 2 ^ k)) % 2 ^ k
    obtain ⟨e, he⟩ := parts_split hk y
    rw [mm hk, he, Nat.add_mod, mm hk, Nat.mul_add_mod, Nat.add_mod_mod]
  · show (x % 2 ^ W * (y % 2 ^ W)) % 2 ^ W % 2 ^ k = (x % 2 ^ k * (y % 2 ^ k)) % 2 ^ k
    rw [mm hk, Nat.mul_mod, mm hk, mm hk]
  · show (2 ^ W - 1 - x % 2 ^ W) % 2 ^ k = 2 ^ k - 1 - x % 2 ^ k
    obtain ⟨e, he⟩ := parts_split hk x
    have hm : x % 2 ^ k < 2 ^ k := Nat.mod_lt _ hp
    rw [Nat.sub_right_comm, he, show 2 ^ k * e + (2 ^ k - x % 2 ^ k) - 1 = 2 ^ k * e + (2 ^ k - 1 - x % 2 ^ k) by omega, Nat.mul_add_mod, Nat.mod_eq_of_lt (by omega)]
  · show (2 ^ W - x % 2 ^ W) % 2 ^ W % 2 ^ k = (2 ^ k - x % 2 ^ k) % 2 ^ k
    obtain ⟨e, he⟩ := parts_split hk x
    rw [mm hk, he, Nat.mul_add_mod]
  · show (x % 2 ^ W &&& y % 2 ^ W) % 2 ^ k = x % 2 ^ k &&& y % 2 ^ k
    rw [Nat.and_mod_two_pow, mm hk, mm hk]
  · show (x % 2 ^ W ||| y % 2 ^ W) % 2 ^ k = x % 2 ^ k ||| y % 2 ^ k
    rw [Nat.or_mod_two_pow, mm hk, mm hk]
  · show (x % 2 ^ W ^^^ y % 2 ^ W) % 2 ^ k = x % 2 ^ k ^^^ y % 2 ^ k
    rw [Nat.xor_mod_two_pow, mm hk, mm hk]
theorem parts_shl (hb : y % 2 ^ W < k) : vv W 12 x y z % 2 ^ k = vv k 12 x (y % 2 ^ W) 0 := by
  show (x % 2 ^ W * 2 ^ (y % 2 ^ W)) % 2 ^ W % 2 ^ k = (x % 2 ^ k * 2 ^ (y % 2 ^ W % 2 ^ k)) % 2 ^ k
  rw [Nat.mod_eq_of_lt (a := y % 2 ^ W) (Nat.lt_trans hb Nat.lt_two_pow_self), mm hk, Nat.mul_mod, mm hk, Nat.mul_mod_mod]
end
theorem vv_take {W o : Nat} (ho : okOp o) (x y z : Nat) : vv W o (([x, y, z].take (arityN o)).getD 0 0) (([x, y, z].take (arityN o)).getD 1 0) (([x, y, z].take (arityN o)).getD 2 0) = vv W o x y z := by
  unfold okOp at ho
  rcases (show o = 2 ∨ o = 3 ∨ o = 4 ∨ o = 5 ∨ o = 6 ∨ o = 7 ∨ o = 8 ∨ o = 9 ∨ o = 10 ∨ o = 11 ∨ o = 12 ∨ o = 13 ∨ o = 14 ∨ o = 15 ∨ o = 16 ∨ o = 17 ∨ o = 18 ∨ o = 19 ∨ o = 20 ∨ o = 21 by omega) with rfl | rfl | rfl | rfl | rfl | rfl | rfl | rfl | rfl | rfl | rfl | rfl | rfl | rfl | rfl | rfl | rfl | rfl | rfl | rfl
  all_goals rfl
section
variable {w1 w3 : World} {W p : Nat} (h1 : 1 ≤ W) (h : W ≤ 64) (he : OpEnv w3)
include h1 h
/-- A calculator q that was there, or has just been made. -/
theorem trim_Q {q : Nat} {v r : Nat} (hv : v < 18446744073709551616) (hr : v % 2 ^ W = r) : ∀ W', Hid (Below w3.heap.size w3 W') → Hid (Calc W' q W) →
    Calls Tryd.prog 26 #[.pointer (some ⟨q, 0, none⟩), .int .u64 (v : Int)] W' fun e w' => e = .returned (.int .u64 (r : Int)) ∧ Hid (Below w3.heap.size w3 w') ∧ Hid (Below W'.heap.size W' w') := fun W' hW hq => by
  subst hr
  refine (ctrim_any h1 h v hv W' hq.out).mono ?_
  rintro e w' ⟨h8, hb⟩
  exact ⟨h8, hW.out.trans (hb.mono hW.out.size), hb⟩
include he
theorem of_Q {q o : Nat} {x y z r : Nat} {ad : Option Addr} (ho : okOp o) (hn : ∀ n ∈ [x, y, z], n < 18446744073709551616) (hr : vv W o x y z = r) (hN : NumsR w3 ad [x, y, z]) (hA : ∀ k, NumsR w3 ad ([x, y, z].take k)) : ∀ W', Hid (Below w3.heap.size w3 W') → Hid (Calc W' q W) →
    Calls Tryd.prog 25 #[.pointer (some ⟨q, 0, none⟩), .int .u8 (o : Int), .slice ad (arityN o) 3] W' fun e w' => e = .returned (.int .u64 (r : Int)) ∧ Hid (Below w3.heap.size w3 w') ∧ Hid (Below W'.heap.size W' w') := fun W' hW hq => by
  have hl : ([x, y, z].take (arityN o)).length = arityN o := by have := arityN_ok ho; simp; omega
  have := of_any h1 h o ho ([x, y, z].take (arityN o)) (fun n hm => hn n (List.mem_of_mem_take hm)) hl ad 3 W' hq.out ((hA _).below hW.out) (he.below hW.out)
  rw [vv_take ho, hr, hl] at this
  refine this.mono ?_
  rintro e w' ⟨h8, hb⟩
  exact ⟨h8, hW.out.trans (hb.mono hW.out.size), hb⟩
end
end Go.Proofs.YtldcekejbnhloaaDoor.Words
