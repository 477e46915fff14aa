/-
  OpLetters' walk.
-/
import Derived.Test.YtnhcbnjibkfnnaaDoorOpC
import Derived.Test.YtnhcbnjibkfnnaaDoorRowLaidOp
namespace Go.Proofs.YtnhcbnjibkfnnaaDoor
open Go.RowKit Go.Lib Ops
open Go.RowKit (Below)

/-- The letters of the names. -/
theorem letters (k : Nat) (hk : k < 20) : 2 ≤ (nameB (k + 2)).size ∧ (nameB (k + 2)).size ≤ 3 ∧ ∀ i (h : i < (nameB (k + 2)).size), 97 ≤ ((nameB (k + 2))[i]).toNat ∧ ((nameB (k + 2))[i]).toNat ≤ 122 := by
  have hs : (nameB (k + 2)).size = (nameL (k + 2)).length := rfl
  have hb : ∀ i (h : i < (nameB (k + 2)).size), (nameB (k + 2))[i] = (nameL (k + 2)).getD i 0 := fun i h => by
    have h2 : i < (nameL (k + 2)).length := h
    show (nameL (k + 2)).toArray[i] = _
    simp [List.getD, h2]
  have : ((List.range 20).all fun k => decide (2 ≤ (nameL (k + 2)).length) && decide ((nameL (k + 2)).length ≤ 3) && ((nameL (k + 2)).all fun c => decide (97 ≤ c.toNat) && decide (c.toNat ≤ 122))) = true := by decide +kernel
  have h1 := List.all_eq_true.1 this k (List.mem_range.2 hk)
  simp only [Bool.and_eq_true, decide_eq_true_eq] at h1
  refine ⟨hs ▸ h1.1.1, hs ▸ h1.1.2, fun i h => ?_⟩
  rw [hb i h]
  have h2 : i < (nameL (k + 2)).length := h
  have h3 := List.all_eq_true.1 h1.2 ((nameL (k + 2)).getD i 0) (by simp [List.getD, h2])
  simpa using h3

set_option maxRecDepth 100000 in
set_option maxHeartbeats 4000000 in
theorem letters_tail (w : World) (he : Env w) (s : ByteArray) (a : Nat) (ha : a ≤ 255) (hl : ¬ 100 < (s.size : Int)) :
    Calls Tryd.prog 7 #[.string s, .int .u8 a] w fun e w' => e = .returned (.bool true) ∧ Below w.heap.size w w' := by
  have HE := Lib.hid he
  clear he
  obtain ⟨k, hk, hkm⟩ : ∃ k : Nat, k < 20 ∧ (a : Int) % 20 = k := ⟨a % 20, by omega, by omega⟩
  have hkt : (a : Int).tmod 20 = k := by rw [Int.tmod_eq_emod_of_nonneg (by omega)]; exact hkm
  have hk2 : (2 + (k : Int)) % 256 = ((k + 2 : Nat) : Int) := by omega
  obtain ⟨hz1, hz2, hlet⟩ := letters k hk
  have hS : nmS (k + 2) = nameB (k + 2) := by unfold nmS; rw [if_pos (by omega)]
  have hE : nmE (k + 2) = 0 := by unfold nmE; rw [if_pos (by omega), if_neg (by omega)]
  obtain ⟨T, hT⟩ : ∃ T, nameB (k + 2) = T := ⟨_, rfl⟩
  rw [hT] at hz1 hz2 hS
  have hlt : ∀ i (h : i < T.size), 97 ≤ (T[i]).toNat ∧ (T[i]).toNat ≤ 122 := by subst hT; exact hlet
  have HL := Lib.hid hlt
  have hnm : ∀ W, OpEnv W → Calls Tryd.prog 12 #[.int .u8 (2 + (k : Int))] W fun e w' => e = .returned (.tuple #[.string T, .int .i64 0]) ∧ W = w' := fun W hW => by
    have := name_two (k + 2) (by omega) W hW
    rw [hS, hE] at this
    rw [Int.add_comm]
    exact this
  have HN := Lib.hid hnm
  clear hlet hlt hT hS hE hnm
  go_enter Tryd.func7, Tryd.ntmps7
  go_wp2_with fail
  refine (of_is _ _).mono ?_
  rintro e w1 ⟨hP, hB⟩
  have HB1 := Lib.hid hB
  clear hB
  rcases hP with ⟨j, hj, hn, rfl⟩ | ⟨_, rfl⟩
  · have hSj : nmS (j + 2) = s := by unfold nmS; rw [if_pos (by omega)]; exact hn
    have hEj : nmE (j + 2) = 0 := by unfold nmE; rw [if_pos (by omega), if_neg (by omega)]
    have hc : (j : Int) + 2 = ((j + 2 : Nat) : Int) := rfl
    rw [hc]
    clear hc hn
    go_wp2_with fail
    refine (name_two (j + 2) (by omega) _ (HE.out.below HB1.out)).mono ?_
    rintro e w2 ⟨rfl, rfl⟩
    rw [hSj, hEj]
    clear hSj hEj hj
    go_wp2_with fail
    refine (HN.out _ (HE.out.below HB1.out)).mono ?_
    rintro e w2 ⟨rfl, rfl⟩
    go_wp2
    go_loop [11] (fun i => ∃ m : Nat, i = .int .i64 m ∧ m ≤ T.size) (fun i => T.size - (intOf i).toNat)
    case atStart => exact ⟨0, rfl, by omega⟩
    case round =>
      obtain ⟨m, rfl, hm⟩ := hrel
      by_cases hlt : m < T.size
      · have hm1 : (m : Int) < T.size := by omega
        obtain ⟨c, hc⟩ : ∃ c, T[m] = c := ⟨_, rfl⟩
        have hcl := HL.out m hlt
        rw [hc] at hcl
        obtain ⟨hc1, hc2⟩ := hcl
        have hc3 : ¬ (c.toNat : Int) < 97 := by omega
        have hc4 : ¬ 122 < (c.toNat : Int) := by omega
        go_wp2
        go_round
        case rel => exact ⟨m + 1, by go_num, by omega⟩
        case measure => simp [intOf]; omega
      · obtain rfl : m = T.size := by omega
        go_wp2_with fail
        refine (lawKnown_is _ (HE.out.below HB1.out)).mono ?_
        rintro e w3 ⟨rfl, hB⟩
        have HB3 := Lib.hid (HB1.out.trans (hB.mono HB1.out.size))
        clear hB HB1
        go_wp2
        go_ret
        exact ⟨rfl, HB3.out⟩
  · go_wp2_with fail
    refine (HN.out _ (HE.out.below HB1.out)).mono ?_
    rintro e w2 ⟨rfl, rfl⟩
    go_wp2
    go_loop [11] (fun i => ∃ m : Nat, i = .int .i64 m ∧ m ≤ T.size) (fun i => T.size - (intOf i).toNat)
    case atStart => exact ⟨0, rfl, by omega⟩
    case round =>
      obtain ⟨m, rfl, hm⟩ := hrel
      by_cases hlt : m < T.size
      · have hm1 : (m : Int) < T.size := by omega
        obtain ⟨c, hc⟩ : ∃ c, T[m] = c := ⟨_, rfl⟩
        have hcl := HL.out m hlt
        rw [hc] at hcl
        obtain ⟨hc1, hc2⟩ := hcl
        have hc3 : ¬ (c.toNat : Int) < 97 := by omega
        have hc4 : ¬ 122 < (c.toNat : Int) := by omega
        go_wp2
        go_round
        case rel => exact ⟨m + 1, by go_num, by omega⟩
        case measure => simp [intOf]; omega
      · obtain rfl : m = T.size := by omega
        go_wp2_with fail
        refine (lawKnown_is _ (HE.out.below HB1.out)).mono ?_
        rintro e w3 ⟨rfl, hB⟩
        have HB3 := Lib.hid (HB1.out.trans (hB.mono HB1.out.size))
        clear hB HB1
        go_wp2
        go_ret
        exact ⟨rfl, HB3.out⟩

set_option maxRecDepth 100000 in
set_option maxHeartbeats 4000000 in
theorem opLetters_walk (w : World) (s : ByteArray) (_ : s.size ≤ maxLen) (o : Int) (ho : (Lit.int .u8 o).wf = true) (he : Env w) :
    Calls Tryd.prog 7 #[.string s, .int .u8 o] w fun e w' => e = .returned (.bool true) ∧ Below w.heap.size w w' := by
  obtain ⟨a, rfl, ha⟩ : ∃ a : Nat, o = a ∧ a ≤ 255 := by have := u8_range ho; exact ⟨o.toNat, by omega, by omega⟩
  by_cases hl : 100 < (s.size : Int)
  · have HE := Lib.hid he
    clear he ho
    go_enter Tryd.func7, Tryd.ntmps7
    go_wp2_with fail
    refine (lawKnown_is _ HE.out).mono ?_
    rintro e w2 ⟨rfl, hB⟩
    have HB := Lib.hid hB
    clear hB
    go_wp2
    go_ret
    exact ⟨rfl, HB.out⟩
  · exact letters_tail w he s a ha hl
end Go.Proofs.YtnhcbnjibkfnnaaDoor
