/-
  LitNames' walk.
-/
import Derived.Test.YtiddnahipdlgkaaLitP
import Derived.OwnWalk
namespace Go.Proofs.Ytiddnahipdlgkaa
open Go.RowKit Go.Lib
open Go.RowKit (Below)

theorem IntsR.nil (w : World) (a : Option Addr) : IntsR w a [] := .inl rfl
theorem IntsR.take {w : World} {g o : Nat} {zs : List Int} (h : IntsR w (some ⟨g, o, none⟩) zs) (k : Nat) : IntsR w (some ⟨g, o, none⟩) (zs.take k) := by
  rcases h with h | ⟨b, off, ha, hs, hc⟩
  · left; rw [List.length_take]; omega
  · injection ha with ha; injection ha with h1 h2; subst h1; subst h2
    refine .inr ⟨g, o, rfl, hs, fun j hj => ?_⟩
    have hj1 : j < k := by simp at hj; omega
    rw [hc j (by simp at hj; omega)]; simp [List.getD, hj1]
theorem IntsR.tail {w : World} {g o : Nat} {zs : List Int} (h : IntsR w (some ⟨g, o, none⟩) zs) : IntsR w (some ⟨g, o + 1, none⟩) (zs.drop 1) := by
  rcases h with h | ⟨b, off, ha, hs, hc⟩
  · left; rw [List.length_drop]; omega
  · injection ha with ha; injection ha with h1 h2; subst h1; subst h2
    refine .inr ⟨g, o + 1, rfl, hs, fun j hj => ?_⟩
    have := hc (j + 1) (by simp at hj; omega)
    rw [show o + 1 + j = o + (j + 1) by omega, this]; simp [List.getD]

/-- The longest clause, and one number more. -/
def filled (N k : Nat) : List Int := List.replicate k 1 ++ List.replicate (N - k) 0
theorem filled_length (N k : Nat) (h : k ≤ N) : (filled N k).length = N := by unfold filled; simp; omega
theorem filled_zero (N : Nat) : filled N 0 = List.replicate N 0 := by unfold filled; simp
theorem filled_set (N k : Nat) (h : k < N) : (filled N k).set k 1 = filled N (k + 1) := by
  unfold filled
  rw [List.set_append_right _ _ (by simp)]
  simp only [List.length_replicate, Nat.sub_self]
  rw [show N - k = (N - (k + 1)) + 1 by omega, List.replicate_succ, List.set_cons_zero, List.replicate_succ', List.append_assoc]
  rfl
def long (M : Nat) : List Int := List.replicate M 1 ++ [0]
theorem filled_last (M : Nat) : (filled (M + 1) (M + 1)).set M 0 = long M := by
  unfold filled long
  rw [Nat.sub_self, List.replicate_zero, List.append_nil, List.replicate_succ', List.set_append_right _ _ (by simp)]
  simp
theorem long_length (M : Nat) : (long M).length = M + 1 := by unfold long; simp
theorem bad_one : badB 1 1 = false := by decide +kernel
theorem bad_zero : badB 1 0 = true := by decide +kernel
theorem long_all (M : Nat) (h : 4096 ≤ M) : checkI 1 (long M) = 5 := checkI_long 1 (long M) (by omega) (by omega) (by rw [long_length]; omega)
theorem long_take (M : Nat) : (long M).take M = List.replicate M 1 := by
  unfold long; rw [List.take_append_of_le_length (by simp)]; simp
theorem long_front (M : Nat) (h : M ≤ 4096) : checkI 1 ((long M).take M) = 0 := by
  refine checkI_ok 1 _ (by omega) (by omega) (by rw [long_take]; simp; omega) ?_
  rw [long_take, List.any_eq_false]
  intro x hx
  rw [List.eq_of_mem_replicate hx, bad_one]; simp
theorem long_back (M : Nat) (h : M ≤ 4096) (h1 : 1 ≤ M) : checkI 1 ((long M).drop 1) = 3 := by
  refine checkI_bad 1 _ (by omega) (by omega) (by rw [List.length_drop, long_length]; omega) ?_
  rw [List.any_eq_true]
  refine ⟨0, ?_, bad_zero⟩
  unfold long
  rw [List.drop_append_of_le_length (by simp; omega)]
  simp
theorem less_lit (x y : Int) (b : Bool) (h : lessB x y = b) (w : World) : Calls Try.prog 19 #[.int .i64 x, .int .i64 y] w fun e w' => e = .returned (.bool b) ∧ w = w' := by
  subst h; exact less_any x y w

theorem own_reads {w : World} {B g n cap : Nat} {zs : List Int} (h : w.ownsRow B 3 1 (.slice (some ⟨g, 0, none⟩) n cap) n (zs.map (Value.int .i64))) : IntsR w (some ⟨g, 0, none⟩) zs := by
  have hl : zs.length = n := by simpa using h.1
  by_cases h0 : zs.length = 0
  · exact .inl h0
  refine .inr ⟨g, 0, rfl, (h.lt g rfl).2, fun j hj => ?_⟩
  rw [Nat.zero_add, h.cellAt j (by omega), List.getElem?_map, getD_some _ 0 j hj]; rfl

set_option maxRecDepth 100000 in
set_option maxHeartbeats 8000000 in
theorem litNames_walk (w : World) : Calls Try.prog 6 #[] w fun e w' => e = .returned (.bool true) ∧ Below w.heap.size w w' := by
  obtain ⟨i0, hi, hz0, hz1, hz2⟩ := info_parts Try.info3
  go_enter Try.func6, Try.ntmps6
  go_wp2_with fail
  refine (norm_is (zs := [1, 2, -1]) (n := 3) (m := 0) (r := []) (is := true) rfl rfl (normB_of (ys := [1, -1, 2]) (by decide +kernel) (by decide +kernel) (by decide +kernel)) _ _ _ (by omega) (IntsR.lit _ _ _ _ (by simp) rfl)).mono ?_
  rintro e w1 ⟨a1, c1, rfl, hR1, hB⟩
  have B1 := Lib.hid (((Below.refl w.heap.size w).alloc (Nat.le_refl _) (.cells #[.int .i64 1, .int .i64 2, .int .i64 (-1)] 3)).trans (hB.mono (by simp)))
  clear hB
  go_wp2_with fail
  refine (norm_is (zs := []) (n := 0) (m := 0) (r := []) (is := false) rfl rfl (normB_of (ys := []) (by decide +kernel) (by decide +kernel) (by decide +kernel)) _ _ _ (by omega) (IntsR.nil _ _)).mono ?_
  rintro e w2 ⟨a2, c2, rfl, hR2, hB⟩
  have B2 := Lib.hid ((B1.out).trans (hB.mono (B1.out).size))
  clear hB
  go_wp2_with fail
  refine (norm_is (zs := [0, 0]) (n := 2) (m := 0) (r := []) (is := false) rfl rfl (normB_of (ys := [0, 0]) (by decide +kernel) (by decide +kernel) (by decide +kernel)) _ _ _ (by omega) (IntsR.lit _ _ _ _ (by simp) rfl)).mono ?_
  rintro e w3 ⟨a3, c3, rfl, hR3, hB⟩
  have B3 := Lib.hid ((B2.out.alloc B2.out.size (.cells #[.int .i64 0, .int .i64 0] 3)).trans (hB.mono (by have := (B2.out).size; simp; omega)))
  clear hB
  go_wp2_with fail
  refine (check_is (n := 3) (zs := []) (r := 0) (l := 0) rfl (by decide +kernel) _ _ _ (by unfold maxLen; omega) (IntsR.nil _ _)).mono ?_
  rintro e wx ⟨rfl, rfl⟩
  go_wp2_with fail
  refine (check_is (n := 3) (zs := [4]) (r := 3) (l := 1) rfl (by decide +kernel) _ _ _ (by unfold maxLen; omega) (IntsR.lit _ _ _ _ (by simp) rfl)).mono ?_
  rintro e wx ⟨rfl, rfl⟩
  go_wp2_with fail
  refine (check_is (n := 3) (zs := [0]) (r := 3) (l := 1) rfl (by decide +kernel) _ _ _ (by unfold maxLen; omega) (IntsR.lit _ _ _ _ (by simp) rfl)).mono ?_
  rintro e wx ⟨rfl, rfl⟩
  go_wp2_with fail
  refine (check_is (n := (-1)) (zs := []) (r := 3) (l := 0) rfl (by decide +kernel) _ _ _ (by unfold maxLen; omega) (IntsR.nil _ _)).mono ?_
  rintro e wx ⟨rfl, rfl⟩
  go_wp2_with fail
  refine (check_is (n := 0) (zs := [1]) (r := 3) (l := 1) rfl (by decide +kernel) _ _ _ (by unfold maxLen; omega) (IntsR.lit _ _ _ _ (by simp) rfl)).mono ?_
  rintro e wx ⟨rfl, rfl⟩
  go_wp2_with fail
  refine (check_is (n := 1048577) (zs := []) (r := 3) (l := 0) rfl (by decide +kernel) _ _ _ (by unfold maxLen; omega) (IntsR.nil _ _)).mono ?_
  rintro e wx ⟨rfl, rfl⟩
  go_wp2_with fail
  refine (check_is (n := 1048576) (zs := [-1048576]) (r := 0) (l := 1) rfl (by decide +kernel) _ _ _ (by unfold maxLen; omega) (IntsR.lit _ _ _ _ (by simp) rfl)).mono ?_
  rintro e wx ⟨rfl, rfl⟩
  have hs3 : w.heap.size ≤ w3.heap.size := B3.out.size
  have hsz4 : ∀ (o1 o2 o3 o4 : Obj), ((((w3.alloc o1).alloc o2).alloc o3).alloc o4).heap.size = w3.heap.size + 4 := by intros; simp
  have HB4 : Hid (∀ (o1 o2 o3 o4 : Obj), Below w.heap.size w ((((w3.alloc o1).alloc o2).alloc o3).alloc o4)) := fun o1 o2 o3 o4 => B3.out.trans (((((Below.refl _ _).alloc hs3 o1).alloc (by simp; omega) o2).alloc (by simp; omega) o3).alloc (by simp; omega) o4)
  have HS4 := Lib.hid hsz4
  clear hsz4
  go_wp2_with (at_make; refine wpList_make_full _ rfl _ _ 22 rfl w.heap.size 3 i0 (.int .i64 0) 1 Try.underlying22 hi hz0 hz1 .i64 .i64 _ _ 4097 rfl rfl rfl rfl (by rw [hz2]; omega) (by unfold maxLen; omega) (by rw [HS4.out]; omega) ?_; intro w4 hown0 hgrow0)
  have hO : Hid (w4.ownsRow w.heap.size 3 1 (.slice (some ⟨w3.heap.size + 4, 0, none⟩) 4097 4097) 4097 ((filled 4097 0).map (Value.int .i64))) := by
    unfold Hid
    have e : (madeCells (Value.int IntKind.i64 0).cells (4097 * 1)).toList = (filled 4097 0).map (Value.int .i64) := (toList_madeCells_one (Value.int .i64 0) (4097 * 1)).trans (by rw [filled_zero, List.map_replicate])
    rw [e, HS4.out] at hown0
    exact hown0
  have hB4 : Hid (Below w.heap.size w w4) := (HB4.out _ _ _ _).grown hgrow0 (by rw [HS4.out]; omega) (fun k hk => by cases hk)
  clear hown0 hgrow0 HB4 HS4 hR1 hR2 hR3 B1 B2 B3
  go_wp2
  go_loopw [8] (fun i wr => ∃ k : Nat, i = .int .i64 k ∧ k ≤ 4097 ∧ Hid (wr.ownsRow w.heap.size 3 1 (.slice (some ⟨w3.heap.size + 4, 0, none⟩) 4097 4097) 4097 ((filled 4097 k).map (Value.int .i64))) ∧ Hid (Below w.heap.size w wr)) (fun i _ => 4097 - (intOf i).toNat)
  case atStart => exact ⟨0, rfl, by omega, hO, hB4⟩
  case round =>
    clear hO hB4
    obtain ⟨k, rfl, hk, HO, HB⟩ := hrel
    by_cases hlt : k < 4097
    · have hfr : wr.frozen? ⟨w3.heap.size + 4, k, none⟩ = false := HO.out.frozenAt k
      obtain ⟨u0, hc0⟩ : ∃ u, wr.cell? ⟨w3.heap.size + 4, k, none⟩ = some u := ⟨_, by rw [HO.out.cellAt k (by omega), List.getElem?_eq_getElem (by rw [List.length_map, filled_length 4097 k hk]; omega)]⟩
      have hP : Hid ((wr.setCell ⟨w3.heap.size + 4, k, none⟩ (.int .i64 1)).ownsRow w.heap.size 3 1 (.slice (some ⟨w3.heap.size + 4, 0, none⟩) 4097 4097) 4097 ((filled 4097 (k + 1)).map (Value.int .i64))) := by
        unfold Hid; rw [← filled_set 4097 k hlt, List.map_set]; exact (HO.out.stored k _).1
      have hQ : Hid (Below w.heap.size w (wr.setCell ⟨w3.heap.size + 4, k, none⟩ (.int .i64 1))) := HB.out.setCell (p := ⟨w3.heap.size + 4, k, none⟩) (by show w.heap.size ≤ w3.heap.size + 4; omega) _
      clear HO HB
      go_wp2
      go_roundw
      case rel => exact ⟨k + 1, by go_num, by omega, hP, hQ⟩
      case measure => simp [intOf]; omega
    · obtain rfl : k = 4097 := by omega
      have hfr : wr.frozen? ⟨w3.heap.size + 4, 4096, none⟩ = false := HO.out.frozenAt 4096
      obtain ⟨u0, hc0⟩ : ∃ u, wr.cell? ⟨w3.heap.size + 4, 4096, none⟩ = some u := ⟨_, by rw [HO.out.cellAt 4096 (by omega), List.getElem?_eq_getElem (by rw [List.length_map, filled_length 4097 4097 (by omega)]; omega)]⟩
      have hP : (wr.setCell ⟨w3.heap.size + 4, 4096, none⟩ (.int .i64 0)).ownsRow w.heap.size 3 1 (.slice (some ⟨w3.heap.size + 4, 0, none⟩) 4097 4097) 4097 ((long 4096).map (Value.int .i64)) := by
        rw [← filled_last 4096, List.map_set]; exact (HO.out.stored 4096 _).1
      have hQ : Hid (Below w.heap.size w (wr.setCell ⟨w3.heap.size + 4, 4096, none⟩ (.int .i64 0))) := HB.out.setCell (p := ⟨w3.heap.size + 4, 4096, none⟩) (by show w.heap.size ≤ w3.heap.size + 4; omega) _
      have hL0 := Lib.hid (own_reads hP)
      have hL1 := Lib.hid (hL0.out.take 4096)
      have hL2 := Lib.hid hL0.out.tail
      clear HO HB hP
      go_wp2_with fail
      refine (check_is (n := 1) (zs := long 4096) (r := 5) (l := 4097) (by rw [long_length]) (long_all 4096 (by omega)) _ _ _ (by unfold maxLen; omega) (hL0.out)).mono ?_
      rintro e wx ⟨rfl, rfl⟩
      go_wp2_with fail
      refine (check_is (n := 1) (zs := (long 4096).take 4096) (r := 0) (l := 4096) (by rw [long_take]; simp only [List.length_replicate]) (long_front 4096 (by omega)) _ _ _ (by unfold maxLen; omega) (hL1.out)).mono ?_
      rintro e wx ⟨rfl, rfl⟩
      go_wp2_with fail
      refine (check_is (n := 1) (zs := (long 4096).drop 1) (r := 3) (l := 4096) (by rw [List.length_drop, long_length]) (long_back 4096 (by omega) (by omega)) _ _ _ (by unfold maxLen; omega) (hL2.out)).mono ?_
      rintro e wx ⟨rfl, rfl⟩
      go_wp2_with fail
      have hsr : w.heap.size ≤ wr.heap.size := by have := hQ.out.size; simpa using this
      clear hL0 hL1 hL2
      refine (holds_is (m := [false, true]) (zs := [1, 2]) (k := 2) (l := 2) (r := true) rfl rfl (by decide +kernel) _ _ _ _ _ (by unfold maxLen; omega) (by unfold maxLen; omega) ((BoolsR.lit _ _ _ _ (by simp) rfl).alloc _) (IntsR.lit _ _ _ _ (by simp) rfl)).mono ?_
      rintro e wx ⟨rfl, rfl⟩
      go_wp2_with fail
      refine (holds_is (m := [false, true]) (zs := [1, -2]) (k := 2) (l := 2) (r := false) rfl rfl (by decide +kernel) _ _ _ _ _ (by unfold maxLen; omega) (by unfold maxLen; omega) (((BoolsR.lit _ _ _ _ (by simp) rfl).alloc _).alloc _) (IntsR.lit _ _ _ _ (by simp) rfl)).mono ?_
      rintro e wx ⟨rfl, rfl⟩
      go_wp2_with fail
      refine (holds_is (m := [false, true]) (zs := [3, -3]) (k := 2) (l := 2) (r := false) rfl rfl (by decide +kernel) _ _ _ _ _ (by unfold maxLen; omega) (by unfold maxLen; omega) ((((BoolsR.lit _ _ _ _ (by simp) rfl).alloc _).alloc _).alloc _) (IntsR.lit _ _ _ _ (by simp) rfl)).mono ?_
      rintro e wx ⟨rfl, rfl⟩
      go_wp2_with fail
      refine (holds_is (m := [false, true]) (zs := []) (k := 2) (l := 0) (r := false) rfl rfl (by decide +kernel) _ _ _ _ _ (by unfold maxLen; omega) (by unfold maxLen; omega) ((((BoolsR.lit _ _ _ _ (by simp) rfl).alloc _).alloc _).alloc _) (IntsR.nil _ _)).mono ?_
      rintro e wx ⟨rfl, rfl⟩
      go_wp2_with fail
      refine (holds_is (m := [false, true]) (zs := [0, -9223372036854775808]) (k := 2) (l := 2) (r := false) rfl rfl (by decide +kernel) _ _ _ _ _ (by unfold maxLen; omega) (by unfold maxLen; omega) (((((BoolsR.lit _ _ _ _ (by simp) rfl).alloc _).alloc _).alloc _).alloc _) (IntsR.lit _ _ _ _ (by simp) rfl)).mono ?_
      rintro e wx ⟨rfl, rfl⟩
      go_wp2_with fail
      refine (norm_is (zs := [-9223372036854775808, 5, -9223372036854775808]) (n := 3) (m := 2) (r := [5, -9223372036854775808]) (is := false) rfl rfl (normB_of (ys := [5, -9223372036854775808, -9223372036854775808]) (by decide +kernel) (by decide +kernel) (by decide +kernel)) _ _ _ (by omega) (IntsR.lit _ _ _ _ (by simp) rfl)).mono ?_
      rintro e w5 ⟨a5, c5, rfl, hR5, hB⟩
      have B5 : Hid (Below w.heap.size w w5) := ((((((hQ.out.alloc (by simp; omega) _).alloc (by simp; omega) _).alloc (by simp; omega) _).alloc (by simp; omega) _).alloc (by simp; omega) _).alloc (by simp; omega) _).trans (hB.mono (by simp; omega))
      clear hB
      go_wp2_with fail
      refine (equal_is (xs := [5, -9223372036854775808]) (ys := [5, -9223372036854775808]) (k := 2) (l := 2) (r := true) rfl rfl (by decide +kernel) _ _ _ _ _ (by unfold maxLen; omega) (hR5.alloc _) (IntsR.lit _ _ _ _ rfl rfl)).mono ?_
      rintro e w6 ⟨rfl, hB⟩
      have B6 : Hid (Below w.heap.size w w6) := (B5.out.alloc B5.out.size _).trans (hB.mono (by have := B5.out.size; simp; omega))
      clear hB B5 hR5
      go_wp2_with fail
      refine (less_lit 1 (-1) true (by decide +kernel) _).mono ?_
      rintro e wx ⟨rfl, rfl⟩
      go_wp2_with fail
      refine (less_lit (-1) 2 true (by decide +kernel) _).mono ?_
      rintro e wx ⟨rfl, rfl⟩
      go_wp2_with fail
      refine (less_lit 2 2 false (by decide +kernel) _).mono ?_
      rintro e wx ⟨rfl, rfl⟩
      go_wp2_with fail
      refine (less_lit (-2) 2 false (by decide +kernel) _).mono ?_
      rintro e wx ⟨rfl, rfl⟩
      go_wp2_with fail
      refine (less_lit 9223372036854775807 (-9223372036854775808) true (by decide +kernel) _).mono ?_
      rintro e wx ⟨rfl, rfl⟩
      go_wp2_with fail
      refine (less_lit 0 1 true (by decide +kernel) _).mono ?_
      rintro e wx ⟨rfl, rfl⟩
      go_wp2_with fail
      refine (known_any _).mono ?_
      rintro e w7 ⟨rfl, hB⟩
      go_wp2
      go_ret
      exact ⟨rfl, B6.out.trans (hB.mono B6.out.size)⟩
end Go.Proofs.Ytiddnahipdlgkaa
