/-
  Contracts of the functions of layer 1 that loop over a slice and only read: Check, Holds (program and reference), has, EqualInts.
-/
import Derived.Test.YtbljkbdbiceokaaLitA
namespace Go.Proofs.Ytbljkbdbiceokaa
open Go.RowKit Go.Lib

/-- A slice of integers whose elements are zs, as it lies in the world w. -/
def IntsR (w : World) (a : Option Addr) (zs : List Int) : Prop :=
  zs.length = 0 ∨ ∃ b off, a = some ⟨b, off, none⟩ ∧ b < w.heap.size ∧ ∀ j, j < zs.length → w.cell? ⟨b, off + j, none⟩ = some (.int .i64 (zs.getD j 0))
def BoolsR (w : World) (a : Option Addr) (zs : List Bool) : Prop :=
  zs.length = 0 ∨ ∃ b off, a = some ⟨b, off, none⟩ ∧ b < w.heap.size ∧ ∀ j, j < zs.length → w.cell? ⟨b, off + j, none⟩ = some (.bool (zs.getD j false))

theorem getD_some {α : Type} (zs : List α) (d : α) (k : Nat) (hk : k < zs.length) : zs[k]? = some (zs.getD k d) := by
  simp [List.getD, List.getElem?_eq_getElem hk]
theorem IntsR.at {w : World} {a : Option Addr} {zs : List Int} (h : IntsR w a zs) {k : Nat} (hk : k < zs.length) :
    ∃ b off x, a = some ⟨b, off, none⟩ ∧ Hid (zs[k]? = some x) ∧ w.cell? ⟨b, off + k, none⟩ = some (.int .i64 x) := by
  rcases h with h | ⟨b, off, ha, _, hc⟩
  · omega
  · exact ⟨b, off, _, ha, getD_some zs 0 k hk, hc k hk⟩
theorem BoolsR.at {w : World} {a : Option Addr} {zs : List Bool} (h : BoolsR w a zs) {k : Nat} (hk : k < zs.length) :
    ∃ b off x, a = some ⟨b, off, none⟩ ∧ Hid (zs[k]? = some x) ∧ w.cell? ⟨b, off + k, none⟩ = some (.bool x) := by
  rcases h with h | ⟨b, off, ha, _, hc⟩
  · omega
  · exact ⟨b, off, _, ha, getD_some zs false k hk, hc k hk⟩
theorem IntsR.below {w w' : World} {a : Option Addr} {zs : List Int} (h : IntsR w a zs) (hb : Below w.heap.size w w') : IntsR w' a zs := by
  rcases h with h | ⟨b, off, ha, hs, hc⟩
  · exact .inl h
  · exact .inr ⟨b, off, ha, Nat.lt_of_lt_of_le hs hb.size, fun j hj => by rw [hb.cell (p := ⟨b, off + j, none⟩) hs]; exact hc j hj⟩
theorem BoolsR.below {w w' : World} {a : Option Addr} {zs : List Bool} (h : BoolsR w a zs) (hb : Below w.heap.size w w') : BoolsR w' a zs := by
  rcases h with h | ⟨b, off, ha, hs, hc⟩
  · exact .inl h
  · exact .inr ⟨b, off, ha, Nat.lt_of_lt_of_le hs hb.size, fun j hj => by rw [hb.cell (p := ⟨b, off + j, none⟩) hs]; exact hc j hj⟩

theorem take_any_succ {α : Type} (p : α → Bool) (zs : List α) (k : Nat) (x : α) (hx : zs[k]? = some x) : (zs.take (k + 1)).any p = ((zs.take k).any p || p x) := by
  obtain ⟨hk, rfl⟩ := List.getElem?_eq_some_iff.1 hx
  rw [List.take_succ_eq_append_getElem hk, List.any_append]
  simp
theorem any_of_at {α : Type} (p : α → Bool) (zs : List α) (k : Nat) (x : α) (hx : zs[k]? = some x) (h : p x = true) : zs.any p = true := by
  obtain ⟨hk, rfl⟩ := List.getElem?_eq_some_iff.1 hx
  rw [List.any_eq_true]
  exact ⟨zs[k], by simp, h⟩

/-- What Check asks of one number. -/
def badB (n x : Int) : Bool := x == 0 || decide (n < au x)
def checkI (n : Int) (zs : List Int) : Int := if n < 0 ∨ 1048576 < n then 3 else if 4096 < zs.length then 5 else if zs.any (badB n) then 3 else 0

theorem checkI_neg (n : Int) (zs : List Int) (h : n < 0) : checkI n zs = 3 := by unfold checkI; rw [if_pos (.inl h)]
theorem checkI_big (n : Int) (zs : List Int) (h : 1048576 < n) : checkI n zs = 3 := by unfold checkI; rw [if_pos (.inr h)]
theorem checkI_long (n : Int) (zs : List Int) (h1 : ¬ n < 0) (h2 : ¬ 1048576 < n) (h : 4096 < zs.length) : checkI n zs = 5 := by unfold checkI; rw [if_neg (by omega), if_pos h]
theorem checkI_bad (n : Int) (zs : List Int) (h1 : ¬ n < 0) (h2 : ¬ 1048576 < n) (h3 : ¬ 4096 < zs.length) (h : zs.any (badB n) = true) : checkI n zs = 3 := by unfold checkI; rw [if_neg (by omega), if_neg h3, if_pos h]
theorem checkI_ok (n : Int) (zs : List Int) (h1 : ¬ n < 0) (h2 : ¬ 1048576 < n) (h3 : ¬ 4096 < zs.length) (h : zs.any (badB n) = false) : checkI n zs = 0 := by unfold checkI; rw [if_neg (by omega), if_neg h3, h]; rfl

set_option maxHeartbeats 400000 in
theorem check_any (n : Int) (a : Option Addr) (c : Nat) (zs : List Int) (w : World) (hm : zs.length ≤ maxLen) (h : IntsR w a zs) :
    Calls Try.prog 58 #[.int .i64 n, .slice a zs.length c] w fun e w' => e = .returned (.int .i64 (checkI n zs)) ∧ w = w' := by
  unfold maxLen at hm
  by_cases h1 : n < 0
  · go_enter Try.func58, Try.ntmps58
    go_wp2
    go_ret
    exact ⟨ret_int (checkI_neg _ _ (by omega)).symm, rfl⟩
  by_cases h2 : 1048576 < n
  · go_enter Try.func58, Try.ntmps58
    go_wp2
    go_ret
    exact ⟨ret_int (checkI_big _ _ (by omega)).symm, rfl⟩
  by_cases h3 : 4096 < zs.length
  · go_enter Try.func58, Try.ntmps58
    go_wp2
    go_ret
    exact ⟨ret_int (checkI_long _ _ (by omega) (by omega) (by omega)).symm, rfl⟩
  have hn0 : 0 ≤ n := by omega
  have hnl : n ≤ 1048576 := by omega
  have hz : zs.length ≤ 4096 := by omega
  go_enter Try.func58, Try.ntmps58
  go_wp2
  go_loop [18] (fun i => ∃ k : Nat, k ≤ zs.length ∧ i = .int .i64 k ∧ (zs.take k).any (badB n) = false) (fun i => zs.length - (intOf i).toNat)
  case atStart => exact ⟨0, Nat.zero_le _, rfl, by simp⟩
  case round =>
    obtain ⟨k, hk, rfl, hany⟩ := hrel
    have Ha := Lib.hid hany
    clear hany
    by_cases hlt : k < zs.length
    · obtain ⟨b, off, x, rfl, hx, hcell⟩ := h.at hlt
      clear h
      by_cases hx0 : x = 0
      · subst hx0
        go_wp2_with (go_at_call 43; refine (variable_any _ _).mono ?_; rintro e w' ⟨rfl, rfl⟩)
        go_ret
        exact ⟨ret_int (checkI_bad _ _ (by omega) (by omega) (by omega) (any_of_at _ _ _ _ hx.out (by simp [badB]))).symm, rfl⟩
      have e0 : (x == 0) = false := by simp [hx0]
      by_cases hb : n < au x
      · have hB : Hid (badB n x = true) := by simp [Hid, badB, hb]
        go_wp2_with (go_at_call 43; refine (variable_any _ _).mono ?_; rintro e w' ⟨rfl, rfl⟩)
        go_ret
        exact ⟨ret_int (checkI_bad _ _ (by omega) (by omega) (by omega) (any_of_at _ _ _ _ hx.out hB.out)).symm, rfl⟩
      · have hA : Hid ((zs.take (k + 1)).any (badB n) = false) := by unfold Hid; rw [take_any_succ _ _ _ _ hx.out, Ha.out]; simp [badB, hx0]; omega
        go_wp2_with (go_at_call 43; refine (variable_any _ _).mono ?_; rintro e w' ⟨rfl, rfl⟩)
        go_round
        case rel => exact ⟨k + 1, by omega, by go_num, hA.out⟩
        case measure => simp [intOf]; omega
    · have hA : zs.any (badB n) = false := by have := Ha.out; rwa [List.take_of_length_le (by omega)] at this
      have HA := Lib.hid hA
      clear hA
      go_wp2
      go_ret
      exact ⟨ret_int (checkI_ok _ _ (by omega) (by omega) (by omega) HA.out).symm, rfl⟩

set_option maxHeartbeats 400000 in
theorem refCheck_any (n : Int) (a : Option Addr) (c : Nat) (zs : List Int) (w : World) (hm : zs.length ≤ maxLen) (h : IntsR w a zs) :
    Calls Try.prog 35 #[.int .i64 n, .slice a zs.length c] w fun e w' => e = .returned (.int .i64 (checkI n zs)) ∧ w = w' := by
  unfold maxLen at hm
  by_cases h1 : n < 0
  · go_enter Try.func35, Try.ntmps35
    go_wp2
    go_ret
    exact ⟨ret_int (checkI_neg _ _ (by omega)).symm, rfl⟩
  by_cases h2 : 1048576 < n
  · go_enter Try.func35, Try.ntmps35
    go_wp2
    go_ret
    exact ⟨ret_int (checkI_big _ _ (by omega)).symm, rfl⟩
  by_cases h3 : 4096 < zs.length
  · go_enter Try.func35, Try.ntmps35
    go_wp2
    go_ret
    exact ⟨ret_int (checkI_long _ _ (by omega) (by omega) (by omega)).symm, rfl⟩
  have hn0 : 0 ≤ n := by omega
  have hnl : n ≤ 1048576 := by omega
  have hz : zs.length ≤ 4096 := by omega
  go_enter Try.func35, Try.ntmps35
  go_wp2
  go_loop [5] (fun i => ∃ k : Nat, k ≤ zs.length ∧ i = .int .i64 k ∧ (zs.take k).any (badB n) = false) (fun i => zs.length - (intOf i).toNat)
  case atStart => exact ⟨0, Nat.zero_le _, rfl, by simp⟩
  case round =>
    obtain ⟨k, hk, rfl, hany⟩ := hrel
    have Ha := Lib.hid hany
    clear hany
    by_cases hlt : k < zs.length
    · obtain ⟨b, off, x, rfl, hx, hcell⟩ := h.at hlt
      clear h
      by_cases hx0 : x = 0
      · subst hx0
        go_wp2_with (go_at_call 52; refine (size_any _ _).mono ?_; rintro e w' ⟨rfl, rfl⟩)
        go_ret
        exact ⟨ret_int (checkI_bad _ _ (by omega) (by omega) (by omega) (any_of_at _ _ _ _ hx.out (by simp [badB]))).symm, rfl⟩
      have e0 : (x == 0) = false := by simp [hx0]
      by_cases hb : n < au x
      · have hB : Hid (badB n x = true) := by simp [Hid, badB, hb]
        go_wp2_with (go_at_call 52; refine (size_any _ _).mono ?_; rintro e w' ⟨rfl, rfl⟩)
        go_ret
        exact ⟨ret_int (checkI_bad _ _ (by omega) (by omega) (by omega) (any_of_at _ _ _ _ hx.out hB.out)).symm, rfl⟩
      · have hA : Hid ((zs.take (k + 1)).any (badB n) = false) := by unfold Hid; rw [take_any_succ _ _ _ _ hx.out, Ha.out]; simp [badB, hx0]; omega
        go_wp2_with (go_at_call 52; refine (size_any _ _).mono ?_; rintro e w' ⟨rfl, rfl⟩)
        go_round
        case rel => exact ⟨k + 1, by omega, by go_num, hA.out⟩
        case measure => simp [intOf]; omega
    · have hA : zs.any (badB n) = false := by have := Ha.out; rwa [List.take_of_length_le (by omega)] at this
      have HA := Lib.hid hA
      clear hA
      go_wp2
      go_ret
      exact ⟨ret_int (checkI_ok _ _ (by omega) (by omega) (by omega) HA.out).symm, rfl⟩

end Go.Proofs.Ytbljkbdbiceokaa
