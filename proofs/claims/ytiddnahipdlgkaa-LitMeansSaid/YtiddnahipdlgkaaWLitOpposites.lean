/-
  LitOpposites' walk.
-/
import Derived.Test.YtiddnahipdlgkaaLitK
namespace Go.Proofs.Ytiddnahipdlgkaa
open Go.RowKit Go.Lib
open Go.RowKit (Below)

theorem au_small (L : Int) (h1 : -200 ≤ L) (h2 : L ≤ 200) : au L = max L (-L) := by
  rw [au_abs L (by omega) (by omega)]
  split <;> omega
theorem opposites (m : List Bool) (L : Int) (h1 : -200 ≤ L) (h2 : L ≤ 200) :
    (holdsL m L = false ∧ holdsL m (-L) = false ∧ max L (-L) < 1) ∨ (holdsL m L = false ∧ holdsL m (-L) = false ∧ 1 ≤ max L (-L) ∧ (m.length : Int) < max L (-L)) ∨
    (holdsL m L = true ∧ holdsL m (-L) = false ∧ 1 ≤ max L (-L) ∧ max L (-L) ≤ m.length) ∨ (holdsL m L = false ∧ holdsL m (-L) = true ∧ 1 ≤ max L (-L) ∧ max L (-L) ≤ m.length) := by
  have e1 := au_small L h1 h2
  have e2 := au_small (-L) (by omega) (by omega)
  rw [show max (-L) (- -L) = max L (-L) by omega] at e2
  by_cases h0 : max L (-L) < 1
  · exact .inl ⟨holdsL_zero _ _ (by omega), holdsL_zero _ _ (by omega), h0⟩
  by_cases hf : (m.length : Int) < max L (-L)
  · exact .inr (.inl ⟨holdsL_far _ _ (by omega), holdsL_far _ _ (by omega), by omega, hf⟩)
  obtain ⟨n, hn⟩ : ∃ n : Nat, max L (-L) = (n : Int) + 1 := ⟨(max L (-L)).toNat - 1, by omega⟩
  have hnl : n < m.length := by omega
  have a1 := holdsL_at m L n m[n] (by omega) (by simp)
  have a2 := holdsL_at m (-L) n m[n] (by omega) (by simp)
  by_cases hp : 0 < L
  · rw [decide_eq_true hp] at a1
    rw [decide_eq_false (show ¬ 0 < -L by omega)] at a2
    cases hm : m[n]
    · rw [hm] at a1 a2; exact .inr (.inr (.inr ⟨a1, a2, by omega, by omega⟩))
    · rw [hm] at a1 a2; exact .inr (.inr (.inl ⟨a1, a2, by omega, by omega⟩))
  · rw [decide_eq_false hp] at a1
    rw [decide_eq_true (show 0 < -L by omega)] at a2
    cases hm : m[n]
    · rw [hm] at a1 a2; exact .inr (.inr (.inl ⟨a1, a2, by omega, by omega⟩))
    · rw [hm] at a1 a2; exact .inr (.inr (.inr ⟨a1, a2, by omega, by omega⟩))
theorem any_one {α : Type} (p : α → Bool) (x : α) (b : Bool) (h : p x = b) : [x].any p = b := by simp [h]
theorem any_two {α : Type} (p : α → Bool) (x y : α) (a b c : Bool) (h : p x = a) (h2 : p y = b) (h3 : (a || b) = c) : [x, y].any p = c := by simp [h, h2, h3]

set_option maxHeartbeats 1000000 in
theorem litOpposites_walk (w : World) (l : Int) (wl : (Lit.int .i64 l).wf = true) (b : Option Addr) (d : Nat) (m : List Bool) (hM : BoolsR w b m) (hmm : m.length ≤ maxLen) :
    Calls Try.prog 9 #[.int .i64 l, .slice b m.length d] w fun e w' => e = .returned (.bool true) ∧ Below w.heap.size w w' := by
  unfold maxLen at hmm
  have hK := known_any w
  by_cases hl1 : 100 < m.length
  · go_enter Try.func9, Try.ntmps9
    go_wp2_with (go_at_call 12; refine hK.mono ?_; rintro e w' ⟨rfl, hB⟩)
    go_ret
    exact ⟨rfl, hB⟩
  by_cases hl2 : l = -9223372036854775808
  · subst hl2
    go_enter Try.func9, Try.ntmps9
    go_wp2_with (go_at_call 12; refine hK.mono ?_; rintro e w' ⟨rfl, hB⟩)
    go_ret
    exact ⟨rfl, hB⟩
  have e2 : (l == -9223372036854775808) = false := by simp [hl2]
  clear hl2
  have hml : m.length ≤ 100 := by omega
  clear hl1
  by_cases hl3 : 200 < l
  · have hL1 : -200 ≤ l % 200 := by omega
    have hL2 : l % 200 ≤ 200 := by omega
    go_enter Try.func9, Try.ntmps9
    go_wp2_with fail
    generalize l % 200 = L at hL1 hL2 ⊢
    rcases opposites m L hL1 hL2 with ⟨p1, p2, hv⟩ | ⟨p1, p2, hv, hv2⟩ | ⟨p1, p2, hv, hv2⟩ | ⟨p1, p2, hv, hv2⟩
    · go_wp2_with fail
      refine (holds_is (zs := [L]) (l := 1) (r := false) rfl rfl (any_one _ _ _ p1) b _ d _ _ (by unfold maxLen; omega) (by unfold maxLen; omega) (hM.alloc _) (IntsR.lit _ _ _ _ rfl rfl)).mono ?_
      rintro e w1 ⟨rfl, rfl⟩
      go_wp2_with fail
      refine (holds_is (zs := [-L]) (l := 1) (r := false) rfl rfl (any_one _ _ _ p2) b _ d _ _ (by unfold maxLen; omega) (by unfold maxLen; omega) ((hM.alloc _).alloc _) (IntsR.lit _ _ _ _ (by simp) rfl)).mono ?_
      rintro e w1 ⟨rfl, rfl⟩
      go_wp2_with fail
      refine (holds_is (zs := [L, -L]) (l := 2) (r := false) rfl rfl (any_two _ _ _ _ _ _ p1 p2 rfl) b _ d _ _ (by unfold maxLen; omega) (by unfold maxLen; omega) (((hM.alloc _).alloc _).alloc _) (IntsR.lit _ _ _ _ (by simp) rfl)).mono ?_
      rintro e w1 ⟨rfl, rfl⟩
      go_wp2_with fail
      refine (known_any _).mono ?_
      rintro e w1 ⟨rfl, hB⟩
      go_wp2
      go_ret
      exact ⟨rfl, ((((Below.refl _ _).alloc (Nat.le_refl _) _).alloc (by simp) _).alloc (by simp; omega) _).trans (hB.mono (by simp; omega))⟩
    · go_wp2_with fail
      refine (holds_is (zs := [L]) (l := 1) (r := false) rfl rfl (any_one _ _ _ p1) b _ d _ _ (by unfold maxLen; omega) (by unfold maxLen; omega) (hM.alloc _) (IntsR.lit _ _ _ _ rfl rfl)).mono ?_
      rintro e w1 ⟨rfl, rfl⟩
      go_wp2_with fail
      refine (holds_is (zs := [-L]) (l := 1) (r := false) rfl rfl (any_one _ _ _ p2) b _ d _ _ (by unfold maxLen; omega) (by unfold maxLen; omega) ((hM.alloc _).alloc _) (IntsR.lit _ _ _ _ (by simp) rfl)).mono ?_
      rintro e w1 ⟨rfl, rfl⟩
      go_wp2_with fail
      refine (holds_is (zs := [L, -L]) (l := 2) (r := false) rfl rfl (any_two _ _ _ _ _ _ p1 p2 rfl) b _ d _ _ (by unfold maxLen; omega) (by unfold maxLen; omega) (((hM.alloc _).alloc _).alloc _) (IntsR.lit _ _ _ _ (by simp) rfl)).mono ?_
      rintro e w1 ⟨rfl, rfl⟩
      go_wp2_with fail
      refine (known_any _).mono ?_
      rintro e w1 ⟨rfl, hB⟩
      go_wp2
      go_ret
      exact ⟨rfl, ((((Below.refl _ _).alloc (Nat.le_refl _) _).alloc (by simp) _).alloc (by simp; omega) _).trans (hB.mono (by simp; omega))⟩
    · go_wp2_with fail
      refine (holds_is (zs := [L]) (l := 1) (r := true) rfl rfl (any_one _ _ _ p1) b _ d _ _ (by unfold maxLen; omega) (by unfold maxLen; omega) (hM.alloc _) (IntsR.lit _ _ _ _ rfl rfl)).mono ?_
      rintro e w1 ⟨rfl, rfl⟩
      go_wp2_with fail
      refine (holds_is (zs := [-L]) (l := 1) (r := false) rfl rfl (any_one _ _ _ p2) b _ d _ _ (by unfold maxLen; omega) (by unfold maxLen; omega) ((hM.alloc _).alloc _) (IntsR.lit _ _ _ _ (by simp) rfl)).mono ?_
      rintro e w1 ⟨rfl, rfl⟩
      go_wp2_with fail
      refine (holds_is (zs := [L, -L]) (l := 2) (r := true) rfl rfl (any_two _ _ _ _ _ _ p1 p2 rfl) b _ d _ _ (by unfold maxLen; omega) (by unfold maxLen; omega) (((hM.alloc _).alloc _).alloc _) (IntsR.lit _ _ _ _ (by simp) rfl)).mono ?_
      rintro e w1 ⟨rfl, rfl⟩
      go_wp2_with fail
      refine (known_any _).mono ?_
      rintro e w1 ⟨rfl, hB⟩
      go_wp2
      go_ret
      exact ⟨rfl, ((((Below.refl _ _).alloc (Nat.le_refl _) _).alloc (by simp) _).alloc (by simp; omega) _).trans (hB.mono (by simp; omega))⟩
    · go_wp2_with fail
      refine (holds_is (zs := [L]) (l := 1) (r := false) rfl rfl (any_one _ _ _ p1) b _ d _ _ (by unfold maxLen; omega) (by unfold maxLen; omega) (hM.alloc _) (IntsR.lit _ _ _ _ rfl rfl)).mono ?_
      rintro e w1 ⟨rfl, rfl⟩
      go_wp2_with fail
      refine (holds_is (zs := [-L]) (l := 1) (r := true) rfl rfl (any_one _ _ _ p2) b _ d _ _ (by unfold maxLen; omega) (by unfold maxLen; omega) ((hM.alloc _).alloc _) (IntsR.lit _ _ _ _ (by simp) rfl)).mono ?_
      rintro e w1 ⟨rfl, rfl⟩
      go_wp2_with fail
      refine (holds_is (zs := [L, -L]) (l := 2) (r := true) rfl rfl (any_two _ _ _ _ _ _ p1 p2 rfl) b _ d _ _ (by unfold maxLen; omega) (by unfold maxLen; omega) (((hM.alloc _).alloc _).alloc _) (IntsR.lit _ _ _ _ (by simp) rfl)).mono ?_
      rintro e w1 ⟨rfl, rfl⟩
      go_wp2_with fail
      refine (known_any _).mono ?_
      rintro e w1 ⟨rfl, hB⟩
      go_wp2
      go_ret
      exact ⟨rfl, ((((Below.refl _ _).alloc (Nat.le_refl _) _).alloc (by simp) _).alloc (by simp; omega) _).trans (hB.mono (by simp; omega))⟩
  by_cases hl4 : l < -200
  · have hL1 : -200 ≤ l.tmod 200 := by have := Int.tmod_add_mul_tdiv l 200; have := Int.lt_tmod_of_pos l (show (0 : Int) < 200 by omega); omega
    have hL2 : l.tmod 200 ≤ 200 := by have := Int.tmod_lt_of_pos l (show (0 : Int) < 200 by omega); omega
    go_enter Try.func9, Try.ntmps9
    go_wp2_with fail
    generalize l.tmod 200 = L at hL1 hL2 ⊢
    rcases opposites m L hL1 hL2 with ⟨p1, p2, hv⟩ | ⟨p1, p2, hv, hv2⟩ | ⟨p1, p2, hv, hv2⟩ | ⟨p1, p2, hv, hv2⟩
    · go_wp2_with fail
      refine (holds_is (zs := [L]) (l := 1) (r := false) rfl rfl (any_one _ _ _ p1) b _ d _ _ (by unfold maxLen; omega) (by unfold maxLen; omega) (hM.alloc _) (IntsR.lit _ _ _ _ rfl rfl)).mono ?_
      rintro e w1 ⟨rfl, rfl⟩
      go_wp2_with fail
      refine (holds_is (zs := [-L]) (l := 1) (r := false) rfl rfl (any_one _ _ _ p2) b _ d _ _ (by unfold maxLen; omega) (by unfold maxLen; omega) ((hM.alloc _).alloc _) (IntsR.lit _ _ _ _ (by simp) rfl)).mono ?_
      rintro e w1 ⟨rfl, rfl⟩
      go_wp2_with fail
      refine (holds_is (zs := [L, -L]) (l := 2) (r := false) rfl rfl (any_two _ _ _ _ _ _ p1 p2 rfl) b _ d _ _ (by unfold maxLen; omega) (by unfold maxLen; omega) (((hM.alloc _).alloc _).alloc _) (IntsR.lit _ _ _ _ (by simp) rfl)).mono ?_
      rintro e w1 ⟨rfl, rfl⟩
      go_wp2_with fail
      refine (known_any _).mono ?_
      rintro e w1 ⟨rfl, hB⟩
      go_wp2
      go_ret
      exact ⟨rfl, ((((Below.refl _ _).alloc (Nat.le_refl _) _).alloc (by simp) _).alloc (by simp; omega) _).trans (hB.mono (by simp; omega))⟩
    · go_wp2_with fail
      refine (holds_is (zs := [L]) (l := 1) (r := false) rfl rfl (any_one _ _ _ p1) b _ d _ _ (by unfold maxLen; omega) (by unfold maxLen; omega) (hM.alloc _) (IntsR.lit _ _ _ _ rfl rfl)).mono ?_
      rintro e w1 ⟨rfl, rfl⟩
      go_wp2_with fail
      refine (holds_is (zs := [-L]) (l := 1) (r := false) rfl rfl (any_one _ _ _ p2) b _ d _ _ (by unfold maxLen; omega) (by unfold maxLen; omega) ((hM.alloc _).alloc _) (IntsR.lit _ _ _ _ (by simp) rfl)).mono ?_
      rintro e w1 ⟨rfl, rfl⟩
      go_wp2_with fail
      refine (holds_is (zs := [L, -L]) (l := 2) (r := false) rfl rfl (any_two _ _ _ _ _ _ p1 p2 rfl) b _ d _ _ (by unfold maxLen; omega) (by unfold maxLen; omega) (((hM.alloc _).alloc _).alloc _) (IntsR.lit _ _ _ _ (by simp) rfl)).mono ?_
      rintro e w1 ⟨rfl, rfl⟩
      go_wp2_with fail
      refine (known_any _).mono ?_
      rintro e w1 ⟨rfl, hB⟩
      go_wp2
      go_ret
      exact ⟨rfl, ((((Below.refl _ _).alloc (Nat.le_refl _) _).alloc (by simp) _).alloc (by simp; omega) _).trans (hB.mono (by simp; omega))⟩
    · go_wp2_with fail
      refine (holds_is (zs := [L]) (l := 1) (r := true) rfl rfl (any_one _ _ _ p1) b _ d _ _ (by unfold maxLen; omega) (by unfold maxLen; omega) (hM.alloc _) (IntsR.lit _ _ _ _ rfl rfl)).mono ?_
      rintro e w1 ⟨rfl, rfl⟩
      go_wp2_with fail
      refine (holds_is (zs := [-L]) (l := 1) (r := false) rfl rfl (any_one _ _ _ p2) b _ d _ _ (by unfold maxLen; omega) (by unfold maxLen; omega) ((hM.alloc _).alloc _) (IntsR.lit _ _ _ _ (by simp) rfl)).mono ?_
      rintro e w1 ⟨rfl, rfl⟩
      go_wp2_with fail
      refine (holds_is (zs := [L, -L]) (l := 2) (r := true) rfl rfl (any_two _ _ _ _ _ _ p1 p2 rfl) b _ d _ _ (by unfold maxLen; omega) (by unfold maxLen; omega) (((hM.alloc _).alloc _).alloc _) (IntsR.lit _ _ _ _ (by simp) rfl)).mono ?_
      rintro e w1 ⟨rfl, rfl⟩
      go_wp2_with fail
      refine (known_any _).mono ?_
      rintro e w1 ⟨rfl, hB⟩
      go_wp2
      go_ret
      exact ⟨rfl, ((((Below.refl _ _).alloc (Nat.le_refl _) _).alloc (by simp) _).alloc (by simp; omega) _).trans (hB.mono (by simp; omega))⟩
    · go_wp2_with fail
      refine (holds_is (zs := [L]) (l := 1) (r := false) rfl rfl (any_one _ _ _ p1) b _ d _ _ (by unfold maxLen; omega) (by unfold maxLen; omega) (hM.alloc _) (IntsR.lit _ _ _ _ rfl rfl)).mono ?_
      rintro e w1 ⟨rfl, rfl⟩
      go_wp2_with fail
      refine (holds_is (zs := [-L]) (l := 1) (r := true) rfl rfl (any_one _ _ _ p2) b _ d _ _ (by unfold maxLen; omega) (by unfold maxLen; omega) ((hM.alloc _).alloc _) (IntsR.lit _ _ _ _ (by simp) rfl)).mono ?_
      rintro e w1 ⟨rfl, rfl⟩
      go_wp2_with fail
      refine (holds_is (zs := [L, -L]) (l := 2) (r := true) rfl rfl (any_two _ _ _ _ _ _ p1 p2 rfl) b _ d _ _ (by unfold maxLen; omega) (by unfold maxLen; omega) (((hM.alloc _).alloc _).alloc _) (IntsR.lit _ _ _ _ (by simp) rfl)).mono ?_
      rintro e w1 ⟨rfl, rfl⟩
      go_wp2_with fail
      refine (known_any _).mono ?_
      rintro e w1 ⟨rfl, hB⟩
      go_wp2
      go_ret
      exact ⟨rfl, ((((Below.refl _ _).alloc (Nat.le_refl _) _).alloc (by simp) _).alloc (by simp; omega) _).trans (hB.mono (by simp; omega))⟩
  · obtain ⟨L, hL⟩ : ∃ L, L = l := ⟨_, rfl⟩
    subst hL
    have hL1 : -200 ≤ L := by omega
    have hL2 : L ≤ 200 := by omega
    go_enter Try.func9, Try.ntmps9
    go_wp2_with fail
    rcases opposites m L hL1 hL2 with ⟨p1, p2, hv⟩ | ⟨p1, p2, hv, hv2⟩ | ⟨p1, p2, hv, hv2⟩ | ⟨p1, p2, hv, hv2⟩
    · go_wp2_with fail
      refine (holds_is (zs := [L]) (l := 1) (r := false) rfl rfl (any_one _ _ _ p1) b _ d _ _ (by unfold maxLen; omega) (by unfold maxLen; omega) (hM.alloc _) (IntsR.lit _ _ _ _ rfl rfl)).mono ?_
      rintro e w1 ⟨rfl, rfl⟩
      go_wp2_with fail
      refine (holds_is (zs := [-L]) (l := 1) (r := false) rfl rfl (any_one _ _ _ p2) b _ d _ _ (by unfold maxLen; omega) (by unfold maxLen; omega) ((hM.alloc _).alloc _) (IntsR.lit _ _ _ _ (by simp) rfl)).mono ?_
      rintro e w1 ⟨rfl, rfl⟩
      go_wp2_with fail
      refine (holds_is (zs := [L, -L]) (l := 2) (r := false) rfl rfl (any_two _ _ _ _ _ _ p1 p2 rfl) b _ d _ _ (by unfold maxLen; omega) (by unfold maxLen; omega) (((hM.alloc _).alloc _).alloc _) (IntsR.lit _ _ _ _ (by simp) rfl)).mono ?_
      rintro e w1 ⟨rfl, rfl⟩
      go_wp2_with fail
      refine (known_any _).mono ?_
      rintro e w1 ⟨rfl, hB⟩
      go_wp2
      go_ret
      exact ⟨rfl, ((((Below.refl _ _).alloc (Nat.le_refl _) _).alloc (by simp) _).alloc (by simp; omega) _).trans (hB.mono (by simp; omega))⟩
    · go_wp2_with fail
      refine (holds_is (zs := [L]) (l := 1) (r := false) rfl rfl (any_one _ _ _ p1) b _ d _ _ (by unfold maxLen; omega) (by unfold maxLen; omega) (hM.alloc _) (IntsR.lit _ _ _ _ rfl rfl)).mono ?_
      rintro e w1 ⟨rfl, rfl⟩
      go_wp2_with fail
      refine (holds_is (zs := [-L]) (l := 1) (r := false) rfl rfl (any_one _ _ _ p2) b _ d _ _ (by unfold maxLen; omega) (by unfold maxLen; omega) ((hM.alloc _).alloc _) (IntsR.lit _ _ _ _ (by simp) rfl)).mono ?_
      rintro e w1 ⟨rfl, rfl⟩
      go_wp2_with fail
      refine (holds_is (zs := [L, -L]) (l := 2) (r := false) rfl rfl (any_two _ _ _ _ _ _ p1 p2 rfl) b _ d _ _ (by unfold maxLen; omega) (by unfold maxLen; omega) (((hM.alloc _).alloc _).alloc _) (IntsR.lit _ _ _ _ (by simp) rfl)).mono ?_
      rintro e w1 ⟨rfl, rfl⟩
      go_wp2_with fail
      refine (known_any _).mono ?_
      rintro e w1 ⟨rfl, hB⟩
      go_wp2
      go_ret
      exact ⟨rfl, ((((Below.refl _ _).alloc (Nat.le_refl _) _).alloc (by simp) _).alloc (by simp; omega) _).trans (hB.mono (by simp; omega))⟩
    · go_wp2_with fail
      refine (holds_is (zs := [L]) (l := 1) (r := true) rfl rfl (any_one _ _ _ p1) b _ d _ _ (by unfold maxLen; omega) (by unfold maxLen; omega) (hM.alloc _) (IntsR.lit _ _ _ _ rfl rfl)).mono ?_
      rintro e w1 ⟨rfl, rfl⟩
      go_wp2_with fail
      refine (holds_is (zs := [-L]) (l := 1) (r := false) rfl rfl (any_one _ _ _ p2) b _ d _ _ (by unfold maxLen; omega) (by unfold maxLen; omega) ((hM.alloc _).alloc _) (IntsR.lit _ _ _ _ (by simp) rfl)).mono ?_
      rintro e w1 ⟨rfl, rfl⟩
      go_wp2_with fail
      refine (holds_is (zs := [L, -L]) (l := 2) (r := true) rfl rfl (any_two _ _ _ _ _ _ p1 p2 rfl) b _ d _ _ (by unfold maxLen; omega) (by unfold maxLen; omega) (((hM.alloc _).alloc _).alloc _) (IntsR.lit _ _ _ _ (by simp) rfl)).mono ?_
      rintro e w1 ⟨rfl, rfl⟩
      go_wp2_with fail
      refine (known_any _).mono ?_
      rintro e w1 ⟨rfl, hB⟩
      go_wp2
      go_ret
      exact ⟨rfl, ((((Below.refl _ _).alloc (Nat.le_refl _) _).alloc (by simp) _).alloc (by simp; omega) _).trans (hB.mono (by simp; omega))⟩
    · go_wp2_with fail
      refine (holds_is (zs := [L]) (l := 1) (r := false) rfl rfl (any_one _ _ _ p1) b _ d _ _ (by unfold maxLen; omega) (by unfold maxLen; omega) (hM.alloc _) (IntsR.lit _ _ _ _ rfl rfl)).mono ?_
      rintro e w1 ⟨rfl, rfl⟩
      go_wp2_with fail
      refine (holds_is (zs := [-L]) (l := 1) (r := true) rfl rfl (any_one _ _ _ p2) b _ d _ _ (by unfold maxLen; omega) (by unfold maxLen; omega) ((hM.alloc _).alloc _) (IntsR.lit _ _ _ _ (by simp) rfl)).mono ?_
      rintro e w1 ⟨rfl, rfl⟩
      go_wp2_with fail
      refine (holds_is (zs := [L, -L]) (l := 2) (r := true) rfl rfl (any_two _ _ _ _ _ _ p1 p2 rfl) b _ d _ _ (by unfold maxLen; omega) (by unfold maxLen; omega) (((hM.alloc _).alloc _).alloc _) (IntsR.lit _ _ _ _ (by simp) rfl)).mono ?_
      rintro e w1 ⟨rfl, rfl⟩
      go_wp2_with fail
      refine (known_any _).mono ?_
      rintro e w1 ⟨rfl, hB⟩
      go_wp2
      go_ret
      exact ⟨rfl, ((((Below.refl _ _).alloc (Nat.le_refl _) _).alloc (by simp) _).alloc (by simp; omega) _).trans (hB.mono (by simp; omega))⟩
end Go.Proofs.Ytiddnahipdlgkaa
