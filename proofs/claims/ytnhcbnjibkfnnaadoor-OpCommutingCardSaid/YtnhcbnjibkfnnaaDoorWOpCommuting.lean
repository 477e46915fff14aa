/-
  OpCommuting's walk.
-/
import Derived.Test.YtnhcbnjibkfnnaaDoorOpC
import Derived.Test.YtnhcbnjibkfnnaaDoorRowLaidOp
namespace Go.Proofs.YtnhcbnjibkfnnaaDoor
open Go.RowKit Go.Lib Ops
open Go.RowKit (Below)

/-- How many of the first k numbers commute. -/
def commC : Nat → Nat
  | 0 => 0
  | k + 1 => commC k + (if commN k then 1 else 0)
theorem commC_all : commC 256 = 7 := by decide +kernel
theorem commC_le : ∀ k, commC k ≤ k
  | 0 => Nat.le_refl _
  | k + 1 => by have := commC_le k; simp only [commC]; split <;> omega
theorem comm_ar (a : Nat) (h : commN a = true) : arA a = 2 ∧ arE a = 0 := by
  have h22 : a < 22 := by simp [commN] at h; omega
  refine ⟨?_, by unfold arE; rw [if_pos h22]⟩
  unfold arA arityN
  simp [commN] at h
  rw [if_pos h22, if_neg (by omega), if_neg (by omega), if_pos (by omega)]

set_option maxRecDepth 100000 in
set_option maxHeartbeats 4000000 in
theorem opCommuting_walk (w : World) (o : Int) (ho : (Lit.int .u8 o).wf = true) (he : Env w) :
    Calls Tryd.prog 8 #[.int .u8 o] w fun e w' => e = .returned (.bool true) ∧ Below w.heap.size w w' := by
  obtain ⟨a, rfl, ha⟩ : ∃ a : Nat, o = a ∧ a ≤ 255 := by have := u8_range ho; exact ⟨o.toNat, by omega, by omega⟩
  have HE := Lib.hid he
  clear he ho
  go_enter Tryd.func8, Tryd.ntmps8
  go_wp2_with fail
  refine (arity_two a ha _ HE.out).mono ?_
  rintro e w1 ⟨rfl, rfl⟩
  obtain ⟨n, hn⟩ : ∃ n, arA a = n := ⟨_, rfl⟩
  obtain ⟨f, hf⟩ : ∃ f, arE a = f := ⟨_, rfl⟩
  have hc2 : commN a = true → n = 2 ∧ f = 0 := fun h => by have := comm_ar a h; rw [hn, hf] at this; exact this
  have hc3 : commN a = false ∨ (commN a = true ∧ n = 2 ∧ f = 0) := by
    cases h : commN a
    · exact .inl rfl
    · exact .inr ⟨rfl, hc2 h⟩
  have HC := Lib.hid hc3
  rw [hn, hf]
  clear hc2 hc3 hn hf
  go_wp2_with fail
  refine (commutes_is a ha _).mono ?_
  rintro e w1 ⟨rfl, rfl⟩
  rcases HC.out with hb | ⟨hb, rfl, rfl⟩
  all_goals
    rw [hb]
    clear HC hb
    go_wp2
    go_loop [5, 6] (fun c i => ∃ k : Nat, i = .int .i64 k ∧ k ≤ 256 ∧ c = .int .i64 (commC k : Int)) (fun _ i => 256 - (intOf i).toNat)
    case atStart => exact ⟨0, rfl, by omega, rfl⟩
    case round =>
      obtain ⟨k, rfl, hk, rfl⟩ := hrel
      by_cases hlt : k < 256
      · have hk1 : (k : Int) < 256 := by omega
        have hu := u8_of hlt
        have hu2 : (k : Int) % 256 = k := by omega
        have hle := commC_le k
        go_wp2_with fail
        refine (commutes_is k (by omega) _).mono ?_
        rintro e w1 ⟨rfl, rfl⟩
        have hs : commC (k + 1) = commC k + (if commN k then 1 else 0) := rfl
        obtain ⟨C, hC⟩ : ∃ C, commC k = C := ⟨_, rfl⟩
        rw [hC] at hs hle ⊢
        cases hc : commN k
        · rw [hc] at hs
          have HS := Lib.hid hs
          clear hs hC
          go_wp2
          go_round
          case rel => exact ⟨k + 1, by go_num, by omega, by rw [HS.out]; rfl⟩
          case measure => simp [intOf]; omega
        · rw [hc] at hs
          have HS := Lib.hid hs
          clear hs hC
          go_wp2
          go_round
          case rel => exact ⟨k + 1, by go_num, by omega, by rw [HS.out]; rfl⟩
          case measure => simp [intOf]; omega
      · obtain rfl : k = 256 := by omega
        rw [commC_all]
        go_wp2_with fail
        refine (lawKnown_is _ HE.out).mono ?_
        rintro e w3 ⟨rfl, hB⟩
        have HB3 := Lib.hid hB
        clear hB
        go_wp2
        go_ret
        exact ⟨rfl, HB3.out⟩
end Go.Proofs.YtnhcbnjibkfnnaaDoor
