/-
  OpNames' walk.
-/
import Derived.Test.YtnhcbnjibkfnnaaDoorOpC
import Derived.Test.YtnhcbnjibkfnnaaDoorRowLaidOp
namespace Go.Proofs.YtnhcbnjibkfnnaaDoor
open Go.RowKit Go.Lib Ops
open Go.RowKit (Below)

theorem none_of {s : ByteArray} {e : Ending} (h : OfPost s e) (hs : ∀ k, k < 20 → nameL (k + 2) ≠ s.data.toList) : e = .returned (.tuple #[.int .u8 0, .int .i64 6]) := by
  rcases h with ⟨k, hk, rfl, _⟩ | ⟨_, rfl⟩
  · exact absurd rfl (hs k hk)
  · rfl
theorem not_names (l : List UInt8) (h : ((List.range 20).all fun k => !(nameL (k + 2) == l)) = true) : ∀ k, k < 20 → nameL (k + 2) ≠ l := fun k hk e => by
  have := List.all_eq_true.1 h k (List.mem_range.2 hk)
  simp [e] at this
def opsA : List Nat := [1, 3, 12, 21, 0, 2]
def wantA : List Nat := [0, 1, 2, 3, 0, 1]
theorem opsA_ar : ∀ k, k < 6 → opsA.getD k 0 ≤ 255 ∧ arA (opsA.getD k 0) = wantA.getD k 0 ∧ arE (opsA.getD k 0) = 0 := by decide
def opsC : Array Value := (opsA.map fun (n : Nat) => Value.int .u8 (n : Int)).toArray
def wantC : Array Value := (wantA.map fun (n : Nat) => Value.int .i64 (n : Int)).toArray
theorem opsC_at (k : Nat) (hk : k < 6) : opsC[k]? = some (.int .u8 (opsA.getD k 0 : Nat)) ∧ wantC[k]? = some (.int .i64 (wantA.getD k 0 : Nat)) := by
  rcases k with _ | _ | _ | _ | _ | _ | k
  all_goals first | exact ⟨rfl, rfl⟩ | omega

set_option maxRecDepth 100000 in
set_option maxHeartbeats 4000000 in
theorem opNames_walk (w : World) (he : Env w) :
    Calls Tryd.prog 5 #[] w fun e w' => e = .returned (.bool true) ∧ Below w.heap.size w w' := by
  have HE := Lib.hid he
  clear he
  go_enter Tryd.func5, Tryd.ntmps5
  go_wp2
  obtain ⟨w4, hw4⟩ : ∃ w4, (w.alloc (.cells opsC 5)).alloc (.cells wantC 3) = w4 := ⟨_, rfl⟩
  have hw5 : (w.alloc (.cells #[.int .u8 1, .int .u8 3, .int .u8 12, .int .u8 21, .int .u8 0, .int .u8 2] 5)).alloc (.cells #[.int .i64 0, .int .i64 1, .int .i64 2, .int .i64 3, .int .i64 0, .int .i64 1] 3) = w4 := hw4
  have HC : Hid (∀ k, k < 6 → w4.cell? ⟨w.heap.size, k, none⟩ = some (.int .u8 (opsA.getD k 0 : Nat)) ∧ w4.cell? ⟨w.heap.size + 1, k, none⟩ = some (.int .i64 (wantA.getD k 0 : Nat))) := by
    intro k hk
    obtain ⟨h1, h2⟩ := opsC_at k hk
    rw [← hw4]
    constructor
    · rw [World.cell?_alloc_past _ _ _ (by simp), World.cell?_alloc_new]; exact h1
    · have : w.heap.size + 1 = (w.alloc (.cells opsC 5)).heap.size := by simp
      rw [this, World.cell?_alloc_new]; exact h2
  have HB : Hid (Below w.heap.size w w4) := by rw [← hw4]; exact ((Below.refl _ _).alloc (Nat.le_refl _) _).alloc (by simp) _
  rw [hw5]
  clear hw4 hw5
  go_loop [3] (fun i => ∃ k : Nat, i = .int .i64 k ∧ k ≤ 6) (fun i => 6 - (intOf i).toNat)
  case atStart => exact ⟨0, rfl, by omega⟩
  case round =>
    obtain ⟨k, rfl, hk⟩ := hrel
    by_cases hlt : k < 6
    · have hk1 : (k : Int) < 6 := by omega
      obtain ⟨c0, c1⟩ := HC.out k hlt
      obtain ⟨o1, o2, o3⟩ := opsA_ar k hlt
      obtain ⟨o, ho⟩ : ∃ o, opsA.getD k 0 = o := ⟨_, rfl⟩
      obtain ⟨n, hn⟩ : ∃ n, wantA.getD k 0 = n := ⟨_, rfl⟩
      rw [ho] at c0 o1 o2 o3
      rw [hn] at c1 o2
      clear HC ho hn
      go_wp2_with fail
      refine (arity_two o o1 _ (HE.out.below HB.out)).mono ?_
      rintro e w1 ⟨rfl, rfl⟩
      rw [o2, o3]
      clear o2 o3
      go_wp2
      go_round
      case rel => exact ⟨k + 1, by go_num, by omega⟩
      case measure => simp [intOf]; omega
    · obtain rfl : k = 6 := by omega
      clear HC
      go_wp2_with fail
      refine (arity_two 22 (by omega) _ (HE.out.below HB.out)).mono ?_
      rintro e w1 ⟨rfl, rfl⟩
      rw [show arA 22 = 0 from rfl, show arE 22 = 3 from rfl]
      go_wp2_with fail
      refine (name_two 0 (by omega) _ (HE.out.below HB.out)).mono ?_
      rintro e w1 ⟨rfl, rfl⟩
      rw [show nmE 0 = 6 from rfl]
      go_wp2_with fail
      refine (name_two 99 (by omega) _ (HE.out.below HB.out)).mono ?_
      rintro e w1 ⟨rfl, rfl⟩
      rw [show nmE 99 = 3 from rfl]
      go_wp2_with fail
      refine (name_two 2 (by omega) _ (HE.out.below HB.out)).mono ?_
      rintro e w1 ⟨rfl, rfl⟩
      rw [show nmE 2 = 0 from rfl]
      obtain ⟨N, hN⟩ : ∃ N, nmS 2 = N := ⟨_, rfl⟩
      have hq : (N.toList == [110, 111, 116]) = true := by rw [← hN, Lib.toList_data]; rfl
      rw [hN]
      clear hN
      go_wp2_with fail
      refine (of_is _ _).mono ?_
      rintro e w5 ⟨hP, hB⟩
      obtain rfl := none_of hP (not_names _ (by decide +kernel))
      have HB5 := Lib.hid (HB.out.trans (hB.mono HB.out.size))
      clear hP hB HB
      go_wp2_with fail
      refine (of_is _ _).mono ?_
      rintro e w6 ⟨hP, hB⟩
      obtain rfl := none_of hP (not_names _ (by decide +kernel))
      have HB6 := Lib.hid (HB5.out.trans (hB.mono HB5.out.size))
      clear hP hB HB5
      go_wp2_with fail
      refine (of_is _ _).mono ?_
      rintro e w7 ⟨hP, hB⟩
      obtain rfl := none_of hP (not_names _ (by decide +kernel))
      have HB7 := Lib.hid (HB6.out.trans (hB.mono HB6.out.size))
      clear hP hB HB6
      go_wp2_with fail
      refine (commutes_is 4 (by omega) _).mono ?_
      rintro e w8 ⟨rfl, rfl⟩
      rw [show commN 4 = true from rfl]
      go_wp2_with fail
      refine (commutes_is 5 (by omega) _).mono ?_
      rintro e w8 ⟨rfl, rfl⟩
      rw [show commN 5 = false from rfl]
      go_wp2_with fail
      refine (commutes_is 21 (by omega) _).mono ?_
      rintro e w8 ⟨rfl, rfl⟩
      rw [show commN 21 = false from rfl]
      go_wp2_with fail
      refine (commutes_is 22 (by omega) _).mono ?_
      rintro e w8 ⟨rfl, rfl⟩
      rw [show commN 22 = false from rfl]
      go_wp2_with fail
      refine (lawKnown_is _ (HE.out.below HB7.out)).mono ?_
      rintro e w9 ⟨rfl, hB⟩
      have HB9 := Lib.hid (HB7.out.trans (hB.mono HB7.out.size))
      clear hB HB7
      go_wp2
      go_ret
      exact ⟨rfl, HB9.out⟩
end Go.Proofs.YtnhcbnjibkfnnaaDoor
