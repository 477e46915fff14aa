/-
  WordParts' walk, 1 of 3.
-/
import Derived.Test.YtldcekejbnhloaaDoorWrdN
import Derived.Test.YtldcekejbnhloaaDoorWWordAll
set_option linter.unusedVariables false
set_option linter.unusedSimpArgs false
namespace Go.Proofs.YtldcekejbnhloaaDoor
open Go.RowKit Go.Lib Ops Words
open Go.RowKit (Below)

set_option maxRecDepth 20000 in
set_option maxHeartbeats 64000000 in
theorem parts_op3 (w : World) (v o l : Nat) (hv : v ≤ 255) (ho : o ≤ 255) (hl : l ≤ 255) (x y z u : Nat) (lx : x < 18446744073709551616) (ly : y < 18446744073709551616) (lz : z < 18446744073709551616) (lu : u < 18446744073709551616) (he : Env w)
    (k : Nat) (hk : k = 2 + o % 20) (hko : k = 3) :
    Calls Tryd.prog 11 #[.int .u8 (v : Int), .int .u8 (o : Int), .int .u8 (l : Int), .int .u64 (x : Int), .int .u64 (y : Int), .int .u64 (z : Int), .int .u64 (u : Int)] w fun e w' => e = .returned (.bool true) ∧ Below w.heap.size w w' := by
  have hok : okOp k := by unfold okOp; omega
  have KW := Lib.hid (with_is v hv w)
  obtain ⟨h1, h⟩ := wid_rng v
  obtain ⟨W, hW⟩ : ∃ k, wid v = k := ⟨_, rfl⟩
  rw [hW] at KW h1 h
  have HE := Lib.hid he
  have a1 : (o : Int).tmod 20 = (o : Int) % 20 := Int.tmod_eq_emod_of_nonneg (by omega)
  have a2 : IntKind.u8.wrap ((o : Int) % 20) = (o : Int) % 20 := by simp [IntKind.wrap, IntKind.bits, IntKind.signed]; omega
  have a3 : IntKind.u8.wrap (2 + (o : Int) % 20) = (k : Int) := by simp [IntKind.wrap, IntKind.bits, IntKind.signed]; omega
  have a4 : (2 + (o : Int) % 20) % 256 = (k : Int) := by omega
  have a5 : ((o : Int) % 20) % 256 = (o : Int) % 20 := by omega
  obtain ⟨n, hn⟩ : ∃ n, arityN k = n := ⟨_, rfl⟩
  have hn3 : 1 ≤ n ∧ n ≤ 3 := by have := arityN_ok hok; omega
  obtain ⟨hn1, hn2⟩ := hn3
  have n1 : ¬ (n : Int) < 1 := by omega
  have n2 : ¬ (3 : Int) < (n : Int) := by omega
  have n3 : (n : Int) ≤ 3 := by omega
  have n4 : (0 : Int) ≤ (n : Int) := by omega
  have KA : Hid (∀ w', OpEnv w' → Calls Tryd.prog 27 #[.int .u8 (k : Int)] w' fun e w2 => e = .returned (.tuple #[.int .i64 (n : Int), .int .i64 0]) ∧ w' = w2) := fun w' he' => by
    have := arity_two k (by unfold okOp at hok; omega) w' he'
    unfold arA arE at this
    rw [if_pos (by unfold okOp at hok; omega), if_pos (by unfold okOp at hok; omega), hn] at this
    exact this
  have hwW : IntKind.u64.wrap (W : Int) = (W : Int) := u64_of h
  have iW : (W : Int) ≤ 64 := by omega
  have iW0 : ¬ (W : Int) = 0 := by omega
  have iW1 : ((W : Int) == 0) = false := by simp; omega
  have b1 : IntKind.i64.wrap (l : Int) = l := i64_small l (by omega) (by omega)
  have b2 : (l : Int).tmod (W : Int) = (l : Int) % (W : Int) := Int.tmod_eq_emod_of_nonneg (by omega)
  have b0 := Int.emod_nonneg (l : Int) (b := (W : Int)) (by omega)
  have b9 := Int.emod_lt_of_pos (l : Int) (b := (W : Int)) (by omega)
  obtain ⟨m, hm⟩ : ∃ m : Nat, 1 + (l : Int) % (W : Int) = m := ⟨(1 + (l : Int) % (W : Int)).toNat, by omega⟩
  have hm1 : 1 ≤ m := by omega
  have hmW : m ≤ W := by omega
  have hm64 : m ≤ 64 := by omega
  have b3 : IntKind.i64.wrap ((l : Int) % (W : Int)) = (l : Int) % (W : Int) := i64_small _ (by omega) (by omega)
  have b4 : IntKind.i64.wrap (m : Int) = (m : Int) := i64_small _ (by omega) (by omega)
  have b5 : IntKind.i64.wrap (1 + (l : Int) % (W : Int)) = (m : Int) := by rw [hm]; exact b4
  have b6 : IntKind.u64.wrap (m : Int) = (m : Int) := u64_of hm64
  obtain ⟨V, hV⟩ : ∃ V, vv W k x y z = V := ⟨_, rfl⟩
  have lV : V < 18446744073709551616 := by rw [← hV]; exact vv_64 h1 h k x y z
  have hVV : V % 2 ^ W = V := by rw [← hV]; exact vv_mod h1 x y z k
  obtain ⟨V2, hV2⟩ : ∃ V2, V % 2 ^ m = V2 := ⟨_, rfl⟩
  obtain ⟨U, hU, hU64⟩ : ∃ U : Nat, U % 2 ^ W = 0 ∧ U < 18446744073709551616 ∧ ((W < 64 ∧ IntKind.u64.wrap ((u : Int) * 2 ^ W) = (U : Int)) ∨ (¬ W < 64 ∧ U = 0)) := by
    by_cases hW6 : W < 64
    · obtain ⟨q, q1, q2, q3⟩ := wrap_low h ((u : Int) * 2 ^ W) 0 (by
        rw [show ((2 : Int) ^ W) = ((2 ^ W : Nat) : Int) by rw [Int.natCast_pow]; rfl]
        exact (Int.mul_emod_left _ _).symm)
      exact ⟨q, q3, q2, .inl ⟨hW6, q1⟩⟩
    · exact ⟨0, Nat.zero_mod _, by omega, .inr ⟨hW6, rfl⟩⟩
  obtain ⟨lU, hU6⟩ := hU64
  obtain ⟨X, X1, X2, X3⟩ := wrap_low h ((x : Int) + (U : Int)) (x % 2 ^ W) (by rw [Int.natCast_emod, Int.add_emod, ← Int.natCast_emod U, hU, Int.natCast_zero, Int.add_zero, Int.emod_emod_of_dvd _ (Int.dvd_refl _)])
  obtain ⟨Y, Y1, Y2, Y3⟩ := wrap_low h ((y : Int) - (U : Int)) (y % 2 ^ W) (by rw [Int.natCast_emod, Int.sub_emod, ← Int.natCast_emod U, hU, Int.natCast_zero, Int.sub_zero, Int.emod_emod_of_dvd _ (Int.dvd_refl _)])
  obtain ⟨Z, hZ⟩ : ∃ Z, z ^^^ U = Z := ⟨_, rfl⟩
  have Z1 : bits .xor .u64 (z : Int) (U : Int) = (Z : Int) := by rw [bits_xor z U lz lU, hZ]
  have Z2 : Z < 18446744073709551616 := by rw [← hZ, ← two64] at *; exact Nat.xor_lt_two_pow lz lU
  have Z3 : Z % 2 ^ W = z % 2 ^ W := by rw [← hZ, Nat.xor_mod_two_pow, hU, Nat.xor_zero]
  have hVM : vv W k X Y Z = V := by rw [← hV]; exact vv_same h1 x y z k X Y Z X3 Y3 Z3
  have mem1 : ∀ n ∈ [x, y, z], n < 18446744073709551616 := by simp; omega
  have mem2 : ∀ n ∈ [X, Y, Z], n < 18446744073709551616 := by simp; omega
  have hcl : lowOp k := by unfold lowOp; omega
  have z4 : ((k : Int) == 4) = false := by simp; omega
  have z5 : ((k : Int) == 5) = false := by simp; omega
  have z6 : ((k : Int) == 6) = false := by simp; omega
  have z2 : ((k : Int) == 2) = false := by simp; omega
  have z3 : ((k : Int) == 3) = true := by simp; omega
  have z9 : ((k : Int) == 9) = false := by simp; omega
  have z10 : ((k : Int) == 10) = false := by simp; omega
  have z11 : ((k : Int) == 11) = false := by simp; omega
  have hP : vv m k x y z = V2 := by rw [← hV2, ← hV]; exact (parts_low hmW x y z k hcl).symm
  go_enter Tryd.func11, Tryd.ntmps11
  go_wp2_with fail
  refine KW.out.mono ?_
  rintro e w1 ⟨rfl, hp, hB1⟩
  have he1 := HE.out.below hB1
  have KA1 := Lib.hid (KA.out w1 he1)
  have HB1 := Lib.hid hB1
  have hc0 : w1.cell? ⟨w.heap.size, 0, none⟩ = some (.int .i64 (W : Int)) := hp.c0
  obtain ⟨w3, hw3⟩ : ∃ w3, (w1.alloc (.cells #[.int .u64 (x : Int), .int .u64 (y : Int), .int .u64 (z : Int)] 24)).alloc (.cells #[.int .u64 (X : Int), .int .u64 (Y : Int), .int .u64 (Z : Int)] 24) = w3 := ⟨_, rfl⟩
  have HB3 : Hid (Below w1.heap.size w1 w3) := by unfold Hid; rw [← hw3]; exact ((Below.refl _ _).alloc (Nat.le_refl _) _).alloc (by simp) _
  have N1 : NumsR w3 (some ⟨w1.heap.size, 0, none⟩) [x, y, z] := by
    rw [← hw3]; exact (NumsR.lit w1 _ _ _ rfl (by simp)).below ((Below.refl _ _).alloc (Nat.le_refl _) _)
  have N2 : NumsR w3 (some ⟨w1.heap.size + 1, 0, none⟩) [X, Y, Z] := by
    rw [← hw3]; exact NumsR.lit _ _ _ _ (by simp) (by simp)
  have hp3 : Hid (Calc w3 w.heap.size W) := hp.below HB3.out hp.lt
  have he3 : OpEnv w3 := he1.below HB3.out
  have hlt3 : w.heap.size < w3.heap.size := hp3.out.lt
  have hb0 : Hid (Below w3.heap.size w3 w3) := Below.refl _ _
  have CP : ∀ W', Hid (Below w3.heap.size w3 W') → Calc W' w.heap.size W ∧ W'.cell? ⟨w.heap.size, 0, none⟩ = some (.int .i64 (W : Int)) ∧ W'.cell? ⟨w.heap.size, 1, none⟩ = some (.bool false) ∧ ∀ o, (W'.alloc o).cell? ⟨w.heap.size, 1, none⟩ = some (.bool false) := fun W' hW' => by
    have hq := hp3.out.below hW'.out hlt3
    refine ⟨hq, hq.c0, hq.c1, fun o => ?_⟩
    exact (hq.below (B := W'.heap.size) ((Below.refl _ _).alloc (Nat.le_refl _) o) hq.lt).c1
  have HCP := Lib.hid CP
  have T1 : Hid (∀ W', Hid (Below w3.heap.size w3 W') → Calls Tryd.prog 26 #[.pointer (some ⟨w.heap.size, 0, none⟩), .int .u64 (V : Int)] W' fun e w' => e = .returned (.int .u64 (V : Int)) ∧ Hid (Below w3.heap.size w3 w') ∧ Hid (Below W'.heap.size W' w')) := fun W' hW' => trim_Q h1 h lV hVV W' hW' (CP W' hW').1
  have K1 : Hid (∀ W', Hid (Below w3.heap.size w3 W') → Calls Tryd.prog 25 #[.pointer (some ⟨w.heap.size, 0, none⟩), .int .u8 (k : Int), .slice (some ⟨w1.heap.size, 0, none⟩) n 3] W' fun e w' => e = .returned (.int .u64 (V : Int)) ∧ Hid (Below w3.heap.size w3 w') ∧ Hid (Below W'.heap.size W' w')) := fun W' hW' => by
    rw [← hn]; exact of_Q h1 h he3 hok mem1 hV N1 (fun j => N1.take j) W' hW' (CP W' hW').1
  have K2 : Hid (∀ W', Hid (Below w3.heap.size w3 W') → Calls Tryd.prog 25 #[.pointer (some ⟨w.heap.size, 0, none⟩), .int .u8 (k : Int), .slice (some ⟨w1.heap.size + 1, 0, none⟩) n 3] W' fun e w' => e = .returned (.int .u64 (V : Int)) ∧ Hid (Below w3.heap.size w3 w') ∧ Hid (Below W'.heap.size W' w')) := fun W' hW' => by
    rw [← hn]; exact of_Q h1 h he3 hok mem2 hVM N2 (fun j => N2.take j) W' hW' (CP W' hW').1
  have QN : Hid (∀ W', Hid (Below w3.heap.size w3 W') → Hid (Below w3.heap.size w3 (W'.alloc (.cells #[.int .i64 (m : Int), .bool false] 48)))) := fun W' hW' => hW'.out.alloc hW'.out.size _
  have QC : Hid (∀ W' : World, Hid (Calc (W'.alloc (.cells #[.int .i64 (m : Int), .bool false] 48)) W'.heap.size m)) := fun W' => heap_alloc_new _ _
  have QM : Hid (∀ W' W2 q, Hid (Calc W' q m) → Hid (Below W'.heap.size W' W2) → Calc W2 q m ∧ W2.cell? ⟨q, 1, none⟩ = some (.bool false) ∧ W2.cell? ⟨q, 0, none⟩ = some (.int .i64 (m : Int))) := fun W' W2 q hq hb => by
    have := hq.out.below hb.out hq.out.lt
    exact ⟨this, this.c1, this.c0⟩
  have KN : Hid (∀ W', Hid (Below w3.heap.size w3 W') → Calls Tryd.prog 12 #[] W' fun e w' => e = .returned (.bool true) ∧ Hid (Below w3.heap.size w3 w')) := known_K he3
  have T2 : Hid (∀ W' q, Hid (Below w3.heap.size w3 W') → Hid (Calc W' q m) → Calls Tryd.prog 26 #[.pointer (some ⟨q, 0, none⟩), .int .u64 (V : Int)] W' fun e w' => e = .returned (.int .u64 (V2 : Int)) ∧ Hid (Below w3.heap.size w3 w') ∧ Hid (Below W'.heap.size W' w')) := fun W' q hW' hq => trim_Q hm1 hm64 lV hV2 W' hW' hq
  have K3 : Hid (∀ W' q, Hid (Below w3.heap.size w3 W') → Hid (Calc W' q m) → Calls Tryd.prog 25 #[.pointer (some ⟨q, 0, none⟩), .int .u8 (k : Int), .slice (some ⟨w1.heap.size, 0, none⟩) n 3] W' fun e w' => e = .returned (.int .u64 (V2 : Int)) ∧ Hid (Below w3.heap.size w3 w') ∧ Hid (Below W'.heap.size W' w')) := fun W' q hW' hq => by
    rw [← hn]; exact of_Q hm1 hm64 he3 hok mem1 hP N1 (fun j => N1.take j) W' hW' hq
  have HU6 := Lib.hid hU6
  have HB3F : Hid (Below w1.heap.size w1 w3) := HB3
  clear hp he1 hB1 HB3 N1 N2 hp3 he3 hlt3 CP HE he KW KA mem1 mem2 hU hU6 X2 X3 Y2 Y3 Z2 Z3 hZ lU hV hVV lV hV2 hVM hok hv ho hl lx ly lz lu hW h1 h b0 b9 hm1 hmW hm64 hk hn hn1 hn2 hP hcl hko
  all_goals
    rcases HU6.out with ⟨g1, g2⟩ | ⟨g1, rfl⟩
    · have g3 : (W : Int) < 64 := by omega
      clear HU6
      go_wp2_with (first | (go_at_call 27; refine KA1.out.mono ?_; rintro e w' ⟨rfl, rfl⟩) | (go_at_call 26; with_reducible refine (T1.out _ (by assumption)).mono ?_; rintro e w' ⟨rfl, hb, hs⟩; obtain ⟨_, hc1, hc2, hc3⟩ := HCP.out _ hb) | (go_at_call 25; with_reducible refine (K1.out _ (by assumption)).mono ?_; rintro e w' ⟨rfl, hb, hs⟩; obtain ⟨_, hc1, hc2, hc3⟩ := HCP.out _ hb) | (go_at_call 25; with_reducible refine (K2.out _ (by assumption)).mono ?_; rintro e w' ⟨rfl, hb, hs⟩; obtain ⟨_, hc1, hc2, hc3⟩ := HCP.out _ hb) | (go_at_call 25; with_reducible refine (K3.out _ _ (QN.out _ (by assumption)) (QC.out _)).mono ?_; rintro e w' ⟨rfl, hb, hs⟩; obtain ⟨_, hc1, hc2, hc3⟩ := HCP.out _ hb; obtain ⟨hq0, hq1, hq2⟩ := QM.out _ _ _ (QC.out _) hs; have hqc := Lib.hid hq0) | (go_at_call 26; with_reducible refine (T2.out _ _ (by assumption) (by assumption)).mono ?_; rintro e w' ⟨rfl, hb, hs⟩; obtain ⟨_, hc1, hc2, hc3⟩ := HCP.out _ hb; obtain ⟨hq0, hq1, hq2⟩ := QM.out _ _ _ (by assumption) hs; have hqc := Lib.hid hq0) | (go_at_call 12; with_reducible refine (KN.out _ (by assumption)).mono ?_; rintro e w' ⟨rfl, hb⟩))
      go_ret
      exact ⟨rfl, (HB1.out.trans (HB3F.out.mono HB1.out.size)).trans (Below.mono (Hid.out (p := Below w3.heap.size w3 _) (by assumption)) ((HB1.out.trans (HB3F.out.mono HB1.out.size)).size))⟩
    · have g3 : ¬ (W : Int) < 64 := by omega
      have x5 : IntKind.u64.wrap (x : Int) = (X : Int) := by simpa using X1
      have y5 : IntKind.u64.wrap (y : Int) = (Y : Int) := by simpa using Y1
      have z5 : bits .xor .u64 (z : Int) 0 = (Z : Int) := by simpa using Z1
      clear X1 Y1 Z1
      clear HU6
      go_wp2_with (first | (go_at_call 27; refine KA1.out.mono ?_; rintro e w' ⟨rfl, rfl⟩) | (go_at_call 26; with_reducible refine (T1.out _ (by assumption)).mono ?_; rintro e w' ⟨rfl, hb, hs⟩; obtain ⟨_, hc1, hc2, hc3⟩ := HCP.out _ hb) | (go_at_call 25; with_reducible refine (K1.out _ (by assumption)).mono ?_; rintro e w' ⟨rfl, hb, hs⟩; obtain ⟨_, hc1, hc2, hc3⟩ := HCP.out _ hb) | (go_at_call 25; with_reducible refine (K2.out _ (by assumption)).mono ?_; rintro e w' ⟨rfl, hb, hs⟩; obtain ⟨_, hc1, hc2, hc3⟩ := HCP.out _ hb) | (go_at_call 25; with_reducible refine (K3.out _ _ (QN.out _ (by assumption)) (QC.out _)).mono ?_; rintro e w' ⟨rfl, hb, hs⟩; obtain ⟨_, hc1, hc2, hc3⟩ := HCP.out _ hb; obtain ⟨hq0, hq1, hq2⟩ := QM.out _ _ _ (QC.out _) hs; have hqc := Lib.hid hq0) | (go_at_call 26; with_reducible refine (T2.out _ _ (by assumption) (by assumption)).mono ?_; rintro e w' ⟨rfl, hb, hs⟩; obtain ⟨_, hc1, hc2, hc3⟩ := HCP.out _ hb; obtain ⟨hq0, hq1, hq2⟩ := QM.out _ _ _ (by assumption) hs; have hqc := Lib.hid hq0) | (go_at_call 12; with_reducible refine (KN.out _ (by assumption)).mono ?_; rintro e w' ⟨rfl, hb⟩))
      go_ret
      exact ⟨rfl, (HB1.out.trans (HB3F.out.mono HB1.out.size)).trans (Below.mono (Hid.out (p := Below w3.heap.size w3 _) (by assumption)) ((HB1.out.trans (HB3F.out.mono HB1.out.size)).size))⟩
set_option maxRecDepth 20000 in
set_option maxHeartbeats 64000000 in
theorem parts_op9 (w : World) (v o l : Nat) (hv : v ≤ 255) (ho : o ≤ 255) (hl : l ≤ 255) (x y z u : Nat) (lx : x < 18446744073709551616) (ly : y < 18446744073709551616) (lz : z < 18446744073709551616) (lu : u < 18446744073709551616) (he : Env w)
    (k : Nat) (hk : k = 2 + o % 20) (hko : k = 9) :
    Calls Tryd.prog 11 #[.int .u8 (v : Int), .int .u8 (o : Int), .int .u8 (l : Int), .int .u64 (x : Int), .int .u64 (y : Int), .int .u64 (z : Int), .int .u64 (u : Int)] w fun e w' => e = .returned (.bool true) ∧ Below w.heap.size w w' := by
  have hok : okOp k := by unfold okOp; omega
  have KW := Lib.hid (with_is v hv w)
  obtain ⟨h1, h⟩ := wid_rng v
  obtain ⟨W, hW⟩ : ∃ k, wid v = k := ⟨_, rfl⟩
  rw [hW] at KW h1 h
  have HE := Lib.hid he
  have a1 : (o : Int).tmod 20 = (o : Int) % 20 := Int.tmod_eq_emod_of_nonneg (by omega)
  have a2 : IntKind.u8.wrap ((o : Int) % 20) = (o : Int) % 20 := by simp [IntKind.wrap, IntKind.bits, IntKind.signed]; omega
  have a3 : IntKind.u8.wrap (2 + (o : Int) % 20) = (k : Int) := by simp [IntKind.wrap, IntKind.bits, IntKind.signed]; omega
  have a4 : (2 + (o : Int) % 20) % 256 = (k : Int) := by omega
  have a5 : ((o : Int) % 20) % 256 = (o : Int) % 20 := by omega
  obtain ⟨n, hn⟩ : ∃ n, arityN k = n := ⟨_, rfl⟩
  have hn3 : 1 ≤ n ∧ n ≤ 3 := by have := arityN_ok hok; omega
  obtain ⟨hn1, hn2⟩ := hn3
  have n1 : ¬ (n : Int) < 1 := by omega
  have n2 : ¬ (3 : Int) < (n : Int) := by omega
  have n3 : (n : Int) ≤ 3 := by omega
  have n4 : (0 : Int) ≤ (n : Int) := by omega
  have KA : Hid (∀ w', OpEnv w' → Calls Tryd.prog 27 #[.int .u8 (k : Int)] w' fun e w2 => e = .returned (.tuple #[.int .i64 (n : Int), .int .i64 0]) ∧ w' = w2) := fun w' he' => by
    have := arity_two k (by unfold okOp at hok; omega) w' he'
    unfold arA arE at this
    rw [if_pos (by unfold okOp at hok; omega), if_pos (by unfold okOp at hok; omega), hn] at this
    exact this
  have hwW : IntKind.u64.wrap (W : Int) = (W : Int) := u64_of h
  have iW : (W : Int) ≤ 64 := by omega
  have iW0 : ¬ (W : Int) = 0 := by omega
  have iW1 : ((W : Int) == 0) = false := by simp; omega
  have b1 : IntKind.i64.wrap (l : Int) = l := i64_small l (by omega) (by omega)
  have b2 : (l : Int).tmod (W : Int) = (l : Int) % (W : Int) := Int.tmod_eq_emod_of_nonneg (by omega)
  have b0 := Int.emod_nonneg (l : Int) (b := (W : Int)) (by omega)
  have b9 := Int.emod_lt_of_pos (l : Int) (b := (W : Int)) (by omega)
  obtain ⟨m, hm⟩ : ∃ m : Nat, 1 + (l : Int) % (W : Int) = m := ⟨(1 + (l : Int) % (W : Int)).toNat, by omega⟩
  have hm1 : 1 ≤ m := by omega
  have hmW : m ≤ W := by omega
  have hm64 : m ≤ 64 := by omega
  have b3 : IntKind.i64.wrap ((l : Int) % (W : Int)) = (l : Int) % (W : Int) := i64_small _ (by omega) (by omega)
  have b4 : IntKind.i64.wrap (m : Int) = (m : Int) := i64_small _ (by omega) (by omega)
  have b5 : IntKind.i64.wrap (1 + (l : Int) % (W : Int)) = (m : Int) := by rw [hm]; exact b4
  have b6 : IntKind.u64.wrap (m : Int) = (m : Int) := u64_of hm64
  obtain ⟨V, hV⟩ : ∃ V, vv W k x y z = V := ⟨_, rfl⟩
  have lV : V < 18446744073709551616 := by rw [← hV]; exact vv_64 h1 h k x y z
  have hVV : V % 2 ^ W = V := by rw [← hV]; exact vv_mod h1 x y z k
  obtain ⟨V2, hV2⟩ : ∃ V2, V % 2 ^ m = V2 := ⟨_, rfl⟩
  obtain ⟨U, hU, hU64⟩ : ∃ U : Nat, U % 2 ^ W = 0 ∧ U < 18446744073709551616 ∧ ((W < 64 ∧ IntKind.u64.wrap ((u : Int) * 2 ^ W) = (U : Int)) ∨ (¬ W < 64 ∧ U = 0)) := by
    by_cases hW6 : W < 64
    · obtain ⟨q, q1, q2, q3⟩ := wrap_low h ((u : Int) * 2 ^ W) 0 (by
        rw [show ((2 : Int) ^ W) = ((2 ^ W : Nat) : Int) by rw [Int.natCast_pow]; rfl]
        exact (Int.mul_emod_left _ _).symm)
      exact ⟨q, q3, q2, .inl ⟨hW6, q1⟩⟩
    · exact ⟨0, Nat.zero_mod _, by omega, .inr ⟨hW6, rfl⟩⟩
  obtain ⟨lU, hU6⟩ := hU64
  obtain ⟨X, X1, X2, X3⟩ := wrap_low h ((x : Int) + (U : Int)) (x % 2 ^ W) (by rw [Int.natCast_emod, Int.add_emod, ← Int.natCast_emod U, hU, Int.natCast_zero, Int.add_zero, Int.emod_emod_of_dvd _ (Int.dvd_refl _)])
  obtain ⟨Y, Y1, Y2, Y3⟩ := wrap_low h ((y : Int) - (U : Int)) (y % 2 ^ W) (by rw [Int.natCast_emod, Int.sub_emod, ← Int.natCast_emod U, hU, Int.natCast_zero, Int.sub_zero, Int.emod_emod_of_dvd _ (Int.dvd_refl _)])
  obtain ⟨Z, hZ⟩ : ∃ Z, z ^^^ U = Z := ⟨_, rfl⟩
  have Z1 : bits .xor .u64 (z : Int) (U : Int) = (Z : Int) := by rw [bits_xor z U lz lU, hZ]
  have Z2 : Z < 18446744073709551616 := by rw [← hZ, ← two64] at *; exact Nat.xor_lt_two_pow lz lU
  have Z3 : Z % 2 ^ W = z % 2 ^ W := by rw [← hZ, Nat.xor_mod_two_pow, hU, Nat.xor_zero]
  have hVM : vv W k X Y Z = V := by rw [← hV]; exact vv_same h1 x y z k X Y Z X3 Y3 Z3
  have mem1 : ∀ n ∈ [x, y, z], n < 18446744073709551616 := by simp; omega
  have mem2 : ∀ n ∈ [X, Y, Z], n < 18446744073709551616 := by simp; omega
  have hcl : lowOp k := by unfold lowOp; omega
  have z4 : ((k : Int) == 4) = false := by simp; omega
  have z5 : ((k : Int) == 5) = false := by simp; omega
  have z6 : ((k : Int) == 6) = false := by simp; omega
  have z2 : ((k : Int) == 2) = false := by simp; omega
  have z3 : ((k : Int) == 3) = false := by simp; omega
  have z9 : ((k : Int) == 9) = true := by simp; omega
  have z10 : ((k : Int) == 10) = false := by simp; omega
  have z11 : ((k : Int) == 11) = false := by simp; omega
  have hP : vv m k x y z = V2 := by rw [← hV2, ← hV]; exact (parts_low hmW x y z k hcl).symm
  go_enter Tryd.func11, Tryd.ntmps11
  go_wp2_with fail
  refine KW.out.mono ?_
  rintro e w1 ⟨rfl, hp, hB1⟩
  have he1 := HE.out.below hB1
  have KA1 := Lib.hid (KA.out w1 he1)
  have HB1 := Lib.hid hB1
  have hc0 : w1.cell? ⟨w.heap.size, 0, none⟩ = some (.int .i64 (W : Int)) := hp.c0
  obtain ⟨w3, hw3⟩ : ∃ w3, (w1.alloc (.cells #[.int .u64 (x : Int), .int .u64 (y : Int), .int .u64 (z : Int)] 24)).alloc (.cells #[.int .u64 (X : Int), .int .u64 (Y : Int), .int .u64 (Z : Int)] 24) = w3 := ⟨_, rfl⟩
  have HB3 : Hid (Below w1.heap.size w1 w3) := by unfold Hid; rw [← hw3]; exact ((Below.refl _ _).alloc (Nat.le_refl _) _).alloc (by simp) _
  have N1 : NumsR w3 (some ⟨w1.heap.size, 0, none⟩) [x, y, z] := by
    rw [← hw3]; exact (NumsR.lit w1 _ _ _ rfl (by simp)).below ((Below.refl _ _).alloc (Nat.le_refl _) _)
  have N2 : NumsR w3 (some ⟨w1.heap.size + 1, 0, none⟩) [X, Y, Z] := by
    rw [← hw3]; exact NumsR.lit _ _ _ _ (by simp) (by simp)
  have hp3 : Hid (Calc w3 w.heap.size W) := hp.below HB3.out hp.lt
  have he3 : OpEnv w3 := he1.below HB3.out
  have hlt3 : w.heap.size < w3.heap.size := hp3.out.lt
  have hb0 : Hid (Below w3.heap.size w3 w3) := Below.refl _ _
  have CP : ∀ W', Hid (Below w3.heap.size w3 W') → Calc W' w.heap.size W ∧ W'.cell? ⟨w.heap.size, 0, none⟩ = some (.int .i64 (W : Int)) ∧ W'.cell? ⟨w.heap.size, 1, none⟩ = some (.bool false) ∧ ∀ o, (W'.alloc o).cell? ⟨w.heap.size, 1, none⟩ = some (.bool false) := fun W' hW' => by
    have hq := hp3.out.below hW'.out hlt3
    refine ⟨hq, hq.c0, hq.c1, fun o => ?_⟩
    exact (hq.below (B := W'.heap.size) ((Below.refl _ _).alloc (Nat.le_refl _) o) hq.lt).c1
  have HCP := Lib.hid CP
  have T1 : Hid (∀ W', Hid (Below w3.heap.size w3 W') → Calls Tryd.prog 26 #[.pointer (some ⟨w.heap.size, 0, none⟩), .int .u64 (V : Int)] W' fun e w' => e = .returned (.int .u64 (V : Int)) ∧ Hid (Below w3.heap.size w3 w') ∧ Hid (Below W'.heap.size W' w')) := fun W' hW' => trim_Q h1 h lV hVV W' hW' (CP W' hW').1
  have K1 : Hid (∀ W', Hid (Below w3.heap.size w3 W') → Calls Tryd.prog 25 #[.pointer (some ⟨w.heap.size, 0, none⟩), .int .u8 (k : Int), .slice (some ⟨w1.heap.size, 0, none⟩) n 3] W' fun e w' => e = .returned (.int .u64 (V : Int)) ∧ Hid (Below w3.heap.size w3 w') ∧ Hid (Below W'.heap.size W' w')) := fun W' hW' => by
    rw [← hn]; exact of_Q h1 h he3 hok mem1 hV N1 (fun j => N1.take j) W' hW' (CP W' hW').1
  have K2 : Hid (∀ W', Hid (Below w3.heap.size w3 W') → Calls Tryd.prog 25 #[.pointer (some ⟨w.heap.size, 0, none⟩), .int .u8 (k : Int), .slice (some ⟨w1.heap.size + 1, 0, none⟩) n 3] W' fun e w' => e = .returned (.int .u64 (V : Int)) ∧ Hid (Below w3.heap.size w3 w') ∧ Hid (Below W'.heap.size W' w')) := fun W' hW' => by
    rw [← hn]; exact of_Q h1 h he3 hok mem2 hVM N2 (fun j => N2.take j) W' hW' (CP W' hW').1
  have QN : Hid (∀ W', Hid (Below w3.heap.size w3 W') → Hid (Below w3.heap.size w3 (W'.alloc (.cells #[.int .i64 (m : Int), .bool false] 48)))) := fun W' hW' => hW'.out.alloc hW'.out.size _
  have QC : Hid (∀ W' : World, Hid (Calc (W'.alloc (.cells #[.int .i64 (m : Int), .bool false] 48)) W'.heap.size m)) := fun W' => heap_alloc_new _ _
  have QM : Hid (∀ W' W2 q, Hid (Calc W' q m) → Hid (Below W'.heap.size W' W2) → Calc W2 q m ∧ W2.cell? ⟨q, 1, none⟩ = some (.bool false) ∧ W2.cell? ⟨q, 0, none⟩ = some (.int .i64 (m : Int))) := fun W' W2 q hq hb => by
    have := hq.out.below hb.out hq.out.lt
    exact ⟨this, this.c1, this.c0⟩
  have KN : Hid (∀ W', Hid (Below w3.heap.size w3 W') → Calls Tryd.prog 12 #[] W' fun e w' => e = .returned (.bool true) ∧ Hid (Below w3.heap.size w3 w')) := known_K he3
  have T2 : Hid (∀ W' q, Hid (Below w3.heap.size w3 W') → Hid (Calc W' q m) → Calls Tryd.prog 26 #[.pointer (some ⟨q, 0, none⟩), .int .u64 (V : Int)] W' fun e w' => e = .returned (.int .u64 (V2 : Int)) ∧ Hid (Below w3.heap.size w3 w') ∧ Hid (Below W'.heap.size W' w')) := fun W' q hW' hq => trim_Q hm1 hm64 lV hV2 W' hW' hq
  have K3 : Hid (∀ W' q, Hid (Below w3.heap.size w3 W') → Hid (Calc W' q m) → Calls Tryd.prog 25 #[.pointer (some ⟨q, 0, none⟩), .int .u8 (k : Int), .slice (some ⟨w1.heap.size, 0, none⟩) n 3] W' fun e w' => e = .returned (.int .u64 (V2 : Int)) ∧ Hid (Below w3.heap.size w3 w') ∧ Hid (Below W'.heap.size W' w')) := fun W' q hW' hq => by
    rw [← hn]; exact of_Q hm1 hm64 he3 hok mem1 hP N1 (fun j => N1.take j) W' hW' hq
  have HU6 := Lib.hid hU6
  have HB3F : Hid (Below w1.heap.size w1 w3) := HB3
  clear hp he1 hB1 HB3 N1 N2 hp3 he3 hlt3 CP HE he KW KA mem1 mem2 hU hU6 X2 X3 Y2 Y3 Z2 Z3 hZ lU hV hVV lV hV2 hVM hok hv ho hl lx ly lz lu hW h1 h b0 b9 hm1 hmW hm64 hk hn hn1 hn2 hP hcl hko
  all_goals
    rcases HU6.out with ⟨g1, g2⟩ | ⟨g1, rfl⟩
    · have g3 : (W : Int) < 64 := by omega
      clear HU6
      go_wp2_with (first | (go_at_call 27; refine KA1.out.mono ?_; rintro e w' ⟨rfl, rfl⟩) | (go_at_call 26; with_reducible refine (T1.out _ (by assumption)).mono ?_; rintro e w' ⟨rfl, hb, hs⟩; obtain ⟨_, hc1, hc2, hc3⟩ := HCP.out _ hb) | (go_at_call 25; with_reducible refine (K1.out _ (by assumption)).mono ?_; rintro e w' ⟨rfl, hb, hs⟩; obtain ⟨_, hc1, hc2, hc3⟩ := HCP.out _ hb) | (go_at_call 25; with_reducible refine (K2.out _ (by assumption)).mono ?_; rintro e w' ⟨rfl, hb, hs⟩; obtain ⟨_, hc1, hc2, hc3⟩ := HCP.out _ hb) | (go_at_call 25; with_reducible refine (K3.out _ _ (QN.out _ (by assumption)) (QC.out _)).mono ?_; rintro e w' ⟨rfl, hb, hs⟩; obtain ⟨_, hc1, hc2, hc3⟩ := HCP.out _ hb; obtain ⟨hq0, hq1, hq2⟩ := QM.out _ _ _ (QC.out _) hs; have hqc := Lib.hid hq0) | (go_at_call 26; with_reducible refine (T2.out _ _ (by assumption) (by assumption)).mono ?_; rintro e w' ⟨rfl, hb, hs⟩; obtain ⟨_, hc1, hc2, hc3⟩ := HCP.out _ hb; obtain ⟨hq0, hq1, hq2⟩ := QM.out _ _ _ (by assumption) hs; have hqc := Lib.hid hq0) | (go_at_call 12; with_reducible refine (KN.out _ (by assumption)).mono ?_; rintro e w' ⟨rfl, hb⟩))
      go_ret
      exact ⟨rfl, (HB1.out.trans (HB3F.out.mono HB1.out.size)).trans (Below.mono (Hid.out (p := Below w3.heap.size w3 _) (by assumption)) ((HB1.out.trans (HB3F.out.mono HB1.out.size)).size))⟩
    · have g3 : ¬ (W : Int) < 64 := by omega
      have x5 : IntKind.u64.wrap (x : Int) = (X : Int) := by simpa using X1
      have y5 : IntKind.u64.wrap (y : Int) = (Y : Int) := by simpa using Y1
      have z5 : bits .xor .u64 (z : Int) 0 = (Z : Int) := by simpa using Z1
      clear X1 Y1 Z1
      clear HU6
      go_wp2_with (first | (go_at_call 27; refine KA1.out.mono ?_; rintro e w' ⟨rfl, rfl⟩) | (go_at_call 26; with_reducible refine (T1.out _ (by assumption)).mono ?_; rintro e w' ⟨rfl, hb, hs⟩; obtain ⟨_, hc1, hc2, hc3⟩ := HCP.out _ hb) | (go_at_call 25; with_reducible refine (K1.out _ (by assumption)).mono ?_; rintro e w' ⟨rfl, hb, hs⟩; obtain ⟨_, hc1, hc2, hc3⟩ := HCP.out _ hb) | (go_at_call 25; with_reducible refine (K2.out _ (by assumption)).mono ?_; rintro e w' ⟨rfl, hb, hs⟩; obtain ⟨_, hc1, hc2, hc3⟩ := HCP.out _ hb) | (go_at_call 25; with_reducible refine (K3.out _ _ (QN.out _ (by assumption)) (QC.out _)).mono ?_; rintro e w' ⟨rfl, hb, hs⟩; obtain ⟨_, hc1, hc2, hc3⟩ := HCP.out _ hb; obtain ⟨hq0, hq1, hq2⟩ := QM.out _ _ _ (QC.out _) hs; have hqc := Lib.hid hq0) | (go_at_call 26; with_reducible refine (T2.out _ _ (by assumption) (by assumption)).mono ?_; rintro e w' ⟨rfl, hb, hs⟩; obtain ⟨_, hc1, hc2, hc3⟩ := HCP.out _ hb; obtain ⟨hq0, hq1, hq2⟩ := QM.out _ _ _ (by assumption) hs; have hqc := Lib.hid hq0) | (go_at_call 12; with_reducible refine (KN.out _ (by assumption)).mono ?_; rintro e w' ⟨rfl, hb⟩))
      go_ret
      exact ⟨rfl, (HB1.out.trans (HB3F.out.mono HB1.out.size)).trans (Below.mono (Hid.out (p := Below w3.heap.size w3 _) (by assumption)) ((HB1.out.trans (HB3F.out.mono HB1.out.size)).size))⟩
set_option maxRecDepth 20000 in
set_option maxHeartbeats 64000000 in
theorem parts_op10 (w : World) (v o l : Nat) (hv : v ≤ 255) (ho : o ≤ 255) (hl : l ≤ 255) (x y z u : Nat) (lx : x < 18446744073709551616) (ly : y < 18446744073709551616) (lz : z < 18446744073709551616) (lu : u < 18446744073709551616) (he : Env w)
    (k : Nat) (hk : k = 2 + o % 20) (hko : k = 10) :
    Calls Tryd.prog 11 #[.int .u8 (v : Int), .int .u8 (o : Int), .int .u8 (l : Int), .int .u64 (x : Int), .int .u64 (y : Int), .int .u64 (z : Int), .int .u64 (u : Int)] w fun e w' => e = .returned (.bool true) ∧ Below w.heap.size w w' := by
  have hok : okOp k := by unfold okOp; omega
  have KW := Lib.hid (with_is v hv w)
  obtain ⟨h1, h⟩ := wid_rng v
  obtain ⟨W, hW⟩ : ∃ k, wid v = k := ⟨_, rfl⟩
  rw [hW] at KW h1 h
  have HE := Lib.hid he
  have a1 : (o : Int).tmod 20 = (o : Int) % 20 := Int.tmod_eq_emod_of_nonneg (by omega)
  have a2 : IntKind.u8.wrap ((o : Int) % 20) = (o : Int) % 20 := by simp [IntKind.wrap, IntKind.bits, IntKind.signed]; omega
  have a3 : IntKind.u8.wrap (2 + (o : Int) % 20) = (k : Int) := by simp [IntKind.wrap, IntKind.bits, IntKind.signed]; omega
  have a4 : (2 + (o : Int) % 20) % 256 = (k : Int) := by omega
  have a5 : ((o : Int) % 20) % 256 = (o : Int) % 20 := by omega
  obtain ⟨n, hn⟩ : ∃ n, arityN k = n := ⟨_, rfl⟩
  have hn3 : 1 ≤ n ∧ n ≤ 3 := by have := arityN_ok hok; omega
  obtain ⟨hn1, hn2⟩ := hn3
  have n1 : ¬ (n : Int) < 1 := by omega
  have n2 : ¬ (3 : Int) < (n : Int) := by omega
  have n3 : (n : Int) ≤ 3 := by omega
  have n4 : (0 : Int) ≤ (n : Int) := by omega
  have KA : Hid (∀ w', OpEnv w' → Calls Tryd.prog 27 #[.int .u8 (k : Int)] w' fun e w2 => e = .returned (.tuple #[.int .i64 (n : Int), .int .i64 0]) ∧ w' = w2) := fun w' he' => by
    have := arity_two k (by unfold okOp at hok; omega) w' he'
    unfold arA arE at this
    rw [if_pos (by unfold okOp at hok; omega), if_pos (by unfold okOp at hok; omega), hn] at this
    exact this
  have hwW : IntKind.u64.wrap (W : Int) = (W : Int) := u64_of h
  have iW : (W : Int) ≤ 64 := by omega
  have iW0 : ¬ (W : Int) = 0 := by omega
  have iW1 : ((W : Int) == 0) = false := by simp; omega
  have b1 : IntKind.i64.wrap (l : Int) = l := i64_small l (by omega) (by omega)
  have b2 : (l : Int).tmod (W : Int) = (l : Int) % (W : Int) := Int.tmod_eq_emod_of_nonneg (by omega)
  have b0 := Int.emod_nonneg (l : Int) (b := (W : Int)) (by omega)
  have b9 := Int.emod_lt_of_pos (l : Int) (b := (W : Int)) (by omega)
  obtain ⟨m, hm⟩ : ∃ m : Nat, 1 + (l : Int) % (W : Int) = m := ⟨(1 + (l : Int) % (W : Int)).toNat, by omega⟩
  have hm1 : 1 ≤ m := by omega
  have hmW : m ≤ W := by omega
  have hm64 : m ≤ 64 := by omega
  have b3 : IntKind.i64.wrap ((l : Int) % (W : Int)) = (l : Int) % (W : Int) := i64_small _ (by omega) (by omega)
  have b4 : IntKind.i64.wrap (m : Int) = (m : Int) := i64_small _ (by omega) (by omega)
  have b5 : IntKind.i64.wrap (1 + (l : Int) % (W : Int)) = (m : Int) := by rw [hm]; exact b4
  have b6 : IntKind.u64.wrap (m : Int) = (m : Int) := u64_of hm64
  obtain ⟨V, hV⟩ : ∃ V, vv W k x y z = V := ⟨_, rfl⟩
  have lV : V < 18446744073709551616 := by rw [← hV]; exact vv_64 h1 h k x y z
  have hVV : V % 2 ^ W = V := by rw [← hV]; exact vv_mod h1 x y z k
  obtain ⟨V2, hV2⟩ : ∃ V2, V % 2 ^ m = V2 := ⟨_, rfl⟩
  obtain ⟨U, hU, hU64⟩ : ∃ U : Nat, U % 2 ^ W = 0 ∧ U < 18446744073709551616 ∧ ((W < 64 ∧ IntKind.u64.wrap ((u : Int) * 2 ^ W) = (U : Int)) ∨ (¬ W < 64 ∧ U = 0)) := by
    by_cases hW6 : W < 64
    · obtain ⟨q, q1, q2, q3⟩ := wrap_low h ((u : Int) * 2 ^ W) 0 (by
        rw [show ((2 : Int) ^ W) = ((2 ^ W : Nat) : Int) by rw [Int.natCast_pow]; rfl]
        exact (Int.mul_emod_left _ _).symm)
      exact ⟨q, q3, q2, .inl ⟨hW6, q1⟩⟩
    · exact ⟨0, Nat.zero_mod _, by omega, .inr ⟨hW6, rfl⟩⟩
  obtain ⟨lU, hU6⟩ := hU64
  obtain ⟨X, X1, X2, X3⟩ := wrap_low h ((x : Int) + (U : Int)) (x % 2 ^ W) (by rw [Int.natCast_emod, Int.add_emod, ← Int.natCast_emod U, hU, Int.natCast_zero, Int.add_zero, Int.emod_emod_of_dvd _ (Int.dvd_refl _)])
  obtain ⟨Y, Y1, Y2, Y3⟩ := wrap_low h ((y : Int) - (U : Int)) (y % 2 ^ W) (by rw [Int.natCast_emod, Int.sub_emod, ← Int.natCast_emod U, hU, Int.natCast_zero, Int.sub_zero, Int.emod_emod_of_dvd _ (Int.dvd_refl _)])
  obtain ⟨Z, hZ⟩ : ∃ Z, z ^^^ U = Z := ⟨_, rfl⟩
  have Z1 : bits .xor .u64 (z : Int) (U : Int) = (Z : Int) := by rw [bits_xor z U lz lU, hZ]
  have Z2 : Z < 18446744073709551616 := by rw [← hZ, ← two64] at *; exact Nat.xor_lt_two_pow lz lU
  have Z3 : Z % 2 ^ W = z % 2 ^ W := by rw [← hZ, Nat.xor_mod_two_pow, hU, Nat.xor_zero]
  have hVM : vv W k X Y Z = V := by rw [← hV]; exact vv_same h1 x y z k X Y Z X3 Y3 Z3
  have mem1 : ∀ n ∈ [x, y, z], n < 18446744073709551616 := by simp; omega
  have mem2 : ∀ n ∈ [X, Y, Z], n < 18446744073709551616 := by simp; omega
  have hcl : lowOp k := by unfold lowOp; omega
  have z4 : ((k : Int) == 4) = false := by simp; omega
  have z5 : ((k : Int) == 5) = false := by simp; omega
  have z6 : ((k : Int) == 6) = false := by simp; omega
  have z2 : ((k : Int) == 2) = false := by simp; omega
  have z3 : ((k : Int) == 3) = false := by simp; omega
  have z9 : ((k : Int) == 9) = false := by simp; omega
  have z10 : ((k : Int) == 10) = true := by simp; omega
  have z11 : ((k : Int) == 11) = false := by simp; omega
  have hP : vv m k x y z = V2 := by rw [← hV2, ← hV]; exact (parts_low hmW x y z k hcl).symm
  go_enter Tryd.func11, Tryd.ntmps11
  go_wp2_with fail
  refine KW.out.mono ?_
  rintro e w1 ⟨rfl, hp, hB1⟩
  have he1 := HE.out.below hB1
  have KA1 := Lib.hid (KA.out w1 he1)
  have HB1 := Lib.hid hB1
  have hc0 : w1.cell? ⟨w.heap.size, 0, none⟩ = some (.int .i64 (W : Int)) := hp.c0
  obtain ⟨w3, hw3⟩ : ∃ w3, (w1.alloc (.cells #[.int .u64 (x : Int), .int .u64 (y : Int), .int .u64 (z : Int)] 24)).alloc (.cells #[.int .u64 (X : Int), .int .u64 (Y : Int), .int .u64 (Z : Int)] 24) = w3 := ⟨_, rfl⟩
  have HB3 : Hid (Below w1.heap.size w1 w3) := by unfold Hid; rw [← hw3]; exact ((Below.refl _ _).alloc (Nat.le_refl _) _).alloc (by simp) _
  have N1 : NumsR w3 (some ⟨w1.heap.size, 0, none⟩) [x, y, z] := by
    rw [← hw3]; exact (NumsR.lit w1 _ _ _ rfl (by simp)).below ((Below.refl _ _).alloc (Nat.le_refl _) _)
  have N2 : NumsR w3 (some ⟨w1.heap.size + 1, 0, none⟩) [X, Y, Z] := by
    rw [← hw3]; exact NumsR.lit _ _ _ _ (by simp) (by simp)
  have hp3 : Hid (Calc w3 w.heap.size W) := hp.below HB3.out hp.lt
  have he3 : OpEnv w3 := he1.below HB3.out
  have hlt3 : w.heap.size < w3.heap.size := hp3.out.lt
  have hb0 : Hid (Below w3.heap.size w3 w3) := Below.refl _ _
  have CP : ∀ W', Hid (Below w3.heap.size w3 W') → Calc W' w.heap.size W ∧ W'.cell? ⟨w.heap.size, 0, none⟩ = some (.int .i64 (W : Int)) ∧ W'.cell? ⟨w.heap.size, 1, none⟩ = some (.bool false) ∧ ∀ o, (W'.alloc o).cell? ⟨w.heap.size, 1, none⟩ = some (.bool false) := fun W' hW' => by
    have hq := hp3.out.below hW'.out hlt3
    refine ⟨hq, hq.c0, hq.c1, fun o => ?_⟩
    exact (hq.below (B := W'.heap.size) ((Below.refl _ _).alloc (Nat.le_refl _) o) hq.lt).c1
  have HCP := Lib.hid CP
  have T1 : Hid (∀ W', Hid (Below w3.heap.size w3 W') → Calls Tryd.prog 26 #[.pointer (some ⟨w.heap.size, 0, none⟩), .int .u64 (V : Int)] W' fun e w' => e = .returned (.int .u64 (V : Int)) ∧ Hid (Below w3.heap.size w3 w') ∧ Hid (Below W'.heap.size W' w')) := fun W' hW' => trim_Q h1 h lV hVV W' hW' (CP W' hW').1
  have K1 : Hid (∀ W', Hid (Below w3.heap.size w3 W') → Calls Tryd.prog 25 #[.pointer (some ⟨w.heap.size, 0, none⟩), .int .u8 (k : Int), .slice (some ⟨w1.heap.size, 0, none⟩) n 3] W' fun e w' => e = .returned (.int .u64 (V : Int)) ∧ Hid (Below w3.heap.size w3 w') ∧ Hid (Below W'.heap.size W' w')) := fun W' hW' => by
    rw [← hn]; exact of_Q h1 h he3 hok mem1 hV N1 (fun j => N1.take j) W' hW' (CP W' hW').1
  have K2 : Hid (∀ W', Hid (Below w3.heap.size w3 W') → Calls Tryd.prog 25 #[.pointer (some ⟨w.heap.size, 0, none⟩), .int .u8 (k : Int), .slice (some ⟨w1.heap.size + 1, 0, none⟩) n 3] W' fun e w' => e = .returned (.int .u64 (V : Int)) ∧ Hid (Below w3.heap.size w3 w') ∧ Hid (Below W'.heap.size W' w')) := fun W' hW' => by
    rw [← hn]; exact of_Q h1 h he3 hok mem2 hVM N2 (fun j => N2.take j) W' hW' (CP W' hW').1
  have QN : Hid (∀ W', Hid (Below w3.heap.size w3 W') → Hid (Below w3.heap.size w3 (W'.alloc (.cells #[.int .i64 (m : Int), .bool false] 48)))) := fun W' hW' => hW'.out.alloc hW'.out.size _
  have QC : Hid (∀ W' : World, Hid (Calc (W'.alloc (.cells #[.int .i64 (m : Int), .bool false] 48)) W'.heap.size m)) := fun W' => heap_alloc_new _ _
  have QM : Hid (∀ W' W2 q, Hid (Calc W' q m) → Hid (Below W'.heap.size W' W2) → Calc W2 q m ∧ W2.cell? ⟨q, 1, none⟩ = some (.bool false) ∧ W2.cell? ⟨q, 0, none⟩ = some (.int .i64 (m : Int))) := fun W' W2 q hq hb => by
    have := hq.out.below hb.out hq.out.lt
    exact ⟨this, this.c1, this.c0⟩
  have KN : Hid (∀ W', Hid (Below w3.heap.size w3 W') → Calls Tryd.prog 12 #[] W' fun e w' => e = .returned (.bool true) ∧ Hid (Below w3.heap.size w3 w')) := known_K he3
  have T2 : Hid (∀ W' q, Hid (Below w3.heap.size w3 W') → Hid (Calc W' q m) → Calls Tryd.prog 26 #[.pointer (some ⟨q, 0, none⟩), .int .u64 (V : Int)] W' fun e w' => e = .returned (.int .u64 (V2 : Int)) ∧ Hid (Below w3.heap.size w3 w') ∧ Hid (Below W'.heap.size W' w')) := fun W' q hW' hq => trim_Q hm1 hm64 lV hV2 W' hW' hq
  have K3 : Hid (∀ W' q, Hid (Below w3.heap.size w3 W') → Hid (Calc W' q m) → Calls Tryd.prog 25 #[.pointer (some ⟨q, 0, none⟩), .int .u8 (k : Int), .slice (some ⟨w1.heap.size, 0, none⟩) n 3] W' fun e w' => e = .returned (.int .u64 (V2 : Int)) ∧ Hid (Below w3.heap.size w3 w') ∧ Hid (Below W'.heap.size W' w')) := fun W' q hW' hq => by
    rw [← hn]; exact of_Q hm1 hm64 he3 hok mem1 hP N1 (fun j => N1.take j) W' hW' hq
  have HU6 := Lib.hid hU6
  have HB3F : Hid (Below w1.heap.size w1 w3) := HB3
  clear hp he1 hB1 HB3 N1 N2 hp3 he3 hlt3 CP HE he KW KA mem1 mem2 hU hU6 X2 X3 Y2 Y3 Z2 Z3 hZ lU hV hVV lV hV2 hVM hok hv ho hl lx ly lz lu hW h1 h b0 b9 hm1 hmW hm64 hk hn hn1 hn2 hP hcl hko
  all_goals
    rcases HU6.out with ⟨g1, g2⟩ | ⟨g1, rfl⟩
    · have g3 : (W : Int) < 64 := by omega
      clear HU6
      go_wp2_with (first | (go_at_call 27; refine KA1.out.mono ?_; rintro e w' ⟨rfl, rfl⟩) | (go_at_call 26; with_reducible refine (T1.out _ (by assumption)).mono ?_; rintro e w' ⟨rfl, hb, hs⟩; obtain ⟨_, hc1, hc2, hc3⟩ := HCP.out _ hb) | (go_at_call 25; with_reducible refine (K1.out _ (by assumption)).mono ?_; rintro e w' ⟨rfl, hb, hs⟩; obtain ⟨_, hc1, hc2, hc3⟩ := HCP.out _ hb) | (go_at_call 25; with_reducible refine (K2.out _ (by assumption)).mono ?_; rintro e w' ⟨rfl, hb, hs⟩; obtain ⟨_, hc1, hc2, hc3⟩ := HCP.out _ hb) | (go_at_call 25; with_reducible refine (K3.out _ _ (QN.out _ (by assumption)) (QC.out _)).mono ?_; rintro e w' ⟨rfl, hb, hs⟩; obtain ⟨_, hc1, hc2, hc3⟩ := HCP.out _ hb; obtain ⟨hq0, hq1, hq2⟩ := QM.out _ _ _ (QC.out _) hs; have hqc := Lib.hid hq0) | (go_at_call 26; with_reducible refine (T2.out _ _ (by assumption) (by assumption)).mono ?_; rintro e w' ⟨rfl, hb, hs⟩; obtain ⟨_, hc1, hc2, hc3⟩ := HCP.out _ hb; obtain ⟨hq0, hq1, hq2⟩ := QM.out _ _ _ (by assumption) hs; have hqc := Lib.hid hq0) | (go_at_call 12; with_reducible refine (KN.out _ (by assumption)).mono ?_; rintro e w' ⟨rfl, hb⟩))
      go_ret
      exact ⟨rfl, (HB1.out.trans (HB3F.out.mono HB1.out.size)).trans (Below.mono (Hid.out (p := Below w3.heap.size w3 _) (by assumption)) ((HB1.out.trans (HB3F.out.mono HB1.out.size)).size))⟩
    · have g3 : ¬ (W : Int) < 64 := by omega
      have x5 : IntKind.u64.wrap (x : Int) = (X : Int) := by simpa using X1
      have y5 : IntKind.u64.wrap (y : Int) = (Y : Int) := by simpa using Y1
      have z5 : bits .xor .u64 (z : Int) 0 = (Z : Int) := by simpa using Z1
      clear X1 Y1 Z1
      clear HU6
      go_wp2_with (first | (go_at_call 27; refine KA1.out.mono ?_; rintro e w' ⟨rfl, rfl⟩) | (go_at_call 26; with_reducible refine (T1.out _ (by assumption)).mono ?_; rintro e w' ⟨rfl, hb, hs⟩; obtain ⟨_, hc1, hc2, hc3⟩ := HCP.out _ hb) | (go_at_call 25; with_reducible refine (K1.out _ (by assumption)).mono ?_; rintro e w' ⟨rfl, hb, hs⟩; obtain ⟨_, hc1, hc2, hc3⟩ := HCP.out _ hb) | (go_at_call 25; with_reducible refine (K2.out _ (by assumption)).mono ?_; rintro e w' ⟨rfl, hb, hs⟩; obtain ⟨_, hc1, hc2, hc3⟩ := HCP.out _ hb) | (go_at_call 25; with_reducible refine (K3.out _ _ (QN.out _ (by assumption)) (QC.out _)).mono ?_; rintro e w' ⟨rfl, hb, hs⟩; obtain ⟨_, hc1, hc2, hc3⟩ := HCP.out _ hb; obtain ⟨hq0, hq1, hq2⟩ := QM.out _ _ _ (QC.out _) hs; have hqc := Lib.hid hq0) | (go_at_call 26; with_reducible refine (T2.out _ _ (by assumption) (by assumption)).mono ?_; rintro e w' ⟨rfl, hb, hs⟩; obtain ⟨_, hc1, hc2, hc3⟩ := HCP.out _ hb; obtain ⟨hq0, hq1, hq2⟩ := QM.out _ _ _ (by assumption) hs; have hqc := Lib.hid hq0) | (go_at_call 12; with_reducible refine (KN.out _ (by assumption)).mono ?_; rintro e w' ⟨rfl, hb⟩))
      go_ret
      exact ⟨rfl, (HB1.out.trans (HB3F.out.mono HB1.out.size)).trans (Below.mono (Hid.out (p := Below w3.heap.size w3 _) (by assumption)) ((HB1.out.trans (HB3F.out.mono HB1.out.size)).size))⟩
set_option maxRecDepth 20000 in
set_option maxHeartbeats 64000000 in
theorem parts_op11 (w : World) (v o l : Nat) (hv : v ≤ 255) (ho : o ≤ 255) (hl : l ≤ 255) (x y z u : Nat) (lx : x < 18446744073709551616) (ly : y < 18446744073709551616) (lz : z < 18446744073709551616) (lu : u < 18446744073709551616) (he : Env w)
    (k : Nat) (hk : k = 2 + o % 20) (hko : k = 11) :
    Calls Tryd.prog 11 #[.int .u8 (v : Int), .int .u8 (o : Int), .int .u8 (l : Int), .int .u64 (x : Int), .int .u64 (y : Int), .int .u64 (z : Int), .int .u64 (u : Int)] w fun e w' => e = .returned (.bool true) ∧ Below w.heap.size w w' := by
  have hok : okOp k := by unfold okOp; omega
  have KW := Lib.hid (with_is v hv w)
  obtain ⟨h1, h⟩ := wid_rng v
  obtain ⟨W, hW⟩ : ∃ k, wid v = k := ⟨_, rfl⟩
  rw [hW] at KW h1 h
  have HE := Lib.hid he
  have a1 : (o : Int).tmod 20 = (o : Int) % 20 := Int.tmod_eq_emod_of_nonneg (by omega)
  have a2 : IntKind.u8.wrap ((o : Int) % 20) = (o : Int) % 20 := by simp [IntKind.wrap, IntKind.bits, IntKind.signed]; omega
  have a3 : IntKind.u8.wrap (2 + (o : Int) % 20) = (k : Int) := by simp [IntKind.wrap, IntKind.bits, IntKind.signed]; omega
  have a4 : (2 + (o : Int) % 20) % 256 = (k : Int) := by omega
  have a5 : ((o : Int) % 20) % 256 = (o : Int) % 20 := by omega
  obtain ⟨n, hn⟩ : ∃ n, arityN k = n := ⟨_, rfl⟩
  have hn3 : 1 ≤ n ∧ n ≤ 3 := by have := arityN_ok hok; omega
  obtain ⟨hn1, hn2⟩ := hn3
  have n1 : ¬ (n : Int) < 1 := by omega
  have n2 : ¬ (3 : Int) < (n : Int) := by omega
  have n3 : (n : Int) ≤ 3 := by omega
  have n4 : (0 : Int) ≤ (n : Int) := by omega
  have KA : Hid (∀ w', OpEnv w' → Calls Tryd.prog 27 #[.int .u8 (k : Int)] w' fun e w2 => e = .returned (.tuple #[.int .i64 (n : Int), .int .i64 0]) ∧ w' = w2) := fun w' he' => by
    have := arity_two k (by unfold okOp at hok; omega) w' he'
    unfold arA arE at this
    rw [if_pos (by unfold okOp at hok; omega), if_pos (by unfold okOp at hok; omega), hn] at this
    exact this
  have hwW : IntKind.u64.wrap (W : Int) = (W : Int) := u64_of h
  have iW : (W : Int) ≤ 64 := by omega
  have iW0 : ¬ (W : Int) = 0 := by omega
  have iW1 : ((W : Int) == 0) = false := by simp; omega
  have b1 : IntKind.i64.wrap (l : Int) = l := i64_small l (by omega) (by omega)
  have b2 : (l : Int).tmod (W : Int) = (l : Int) % (W : Int) := Int.tmod_eq_emod_of_nonneg (by omega)
  have b0 := Int.emod_nonneg (l : Int) (b := (W : Int)) (by omega)
  have b9 := Int.emod_lt_of_pos (l : Int) (b := (W : Int)) (by omega)
  obtain ⟨m, hm⟩ : ∃ m : Nat, 1 + (l : Int) % (W : Int) = m := ⟨(1 + (l : Int) % (W : Int)).toNat, by omega⟩
  have hm1 : 1 ≤ m := by omega
  have hmW : m ≤ W := by omega
  have hm64 : m ≤ 64 := by omega
  have b3 : IntKind.i64.wrap ((l : Int) % (W : Int)) = (l : Int) % (W : Int) := i64_small _ (by omega) (by omega)
  have b4 : IntKind.i64.wrap (m : Int) = (m : Int) := i64_small _ (by omega) (by omega)
  have b5 : IntKind.i64.wrap (1 + (l : Int) % (W : Int)) = (m : Int) := by rw [hm]; exact b4
  have b6 : IntKind.u64.wrap (m : Int) = (m : Int) := u64_of hm64
  obtain ⟨V, hV⟩ : ∃ V, vv W k x y z = V := ⟨_, rfl⟩
  have lV : V < 18446744073709551616 := by rw [← hV]; exact vv_64 h1 h k x y z
  have hVV : V % 2 ^ W = V := by rw [← hV]; exact vv_mod h1 x y z k
  obtain ⟨V2, hV2⟩ : ∃ V2, V % 2 ^ m = V2 := ⟨_, rfl⟩
  obtain ⟨U, hU, hU64⟩ : ∃ U : Nat, U % 2 ^ W = 0 ∧ U < 18446744073709551616 ∧ ((W < 64 ∧ IntKind.u64.wrap ((u : Int) * 2 ^ W) = (U : Int)) ∨ (¬ W < 64 ∧ U = 0)) := by
    by_cases hW6 : W < 64
    · obtain ⟨q, q1, q2, q3⟩ := wrap_low h ((u : Int) * 2 ^ W) 0 (by
        rw [show ((2 : Int) ^ W) = ((2 ^ W : Nat) : Int) by rw [Int.natCast_pow]; rfl]
        exact (Int.mul_emod_left _ _).symm)
      exact ⟨q, q3, q2, .inl ⟨hW6, q1⟩⟩
    · exact ⟨0, Nat.zero_mod _, by omega, .inr ⟨hW6, rfl⟩⟩
  obtain ⟨lU, hU6⟩ := hU64
  obtain ⟨X, X1, X2, X3⟩ := wrap_low h ((x : Int) + (U : Int)) (x % 2 ^ W) (by rw [Int.natCast_emod, Int.add_emod, ← Int.natCast_emod U, hU, Int.natCast_zero, Int.add_zero, Int.emod_emod_of_dvd _ (Int.dvd_refl _)])
  obtain ⟨Y, Y1, Y2, Y3⟩ := wrap_low h ((y : Int) - (U : Int)) (y % 2 ^ W) (by rw [Int.natCast_emod, Int.sub_emod, ← Int.natCast_emod U, hU, Int.natCast_zero, Int.sub_zero, Int.emod_emod_of_dvd _ (Int.dvd_refl _)])
  obtain ⟨Z, hZ⟩ : ∃ Z, z ^^^ U = Z := ⟨_, rfl⟩
  have Z1 : bits .xor .u64 (z : Int) (U : Int) = (Z : Int) := by rw [bits_xor z U lz lU, hZ]
  have Z2 : Z < 18446744073709551616 := by rw [← hZ, ← two64] at *; exact Nat.xor_lt_two_pow lz lU
  have Z3 : Z % 2 ^ W = z % 2 ^ W := by rw [← hZ, Nat.xor_mod_two_pow, hU, Nat.xor_zero]
  have hVM : vv W k X Y Z = V := by rw [← hV]; exact vv_same h1 x y z k X Y Z X3 Y3 Z3
  have mem1 : ∀ n ∈ [x, y, z], n < 18446744073709551616 := by simp; omega
  have mem2 : ∀ n ∈ [X, Y, Z], n < 18446744073709551616 := by simp; omega
  have hcl : lowOp k := by unfold lowOp; omega
  have z4 : ((k : Int) == 4) = false := by simp; omega
  have z5 : ((k : Int) == 5) = false := by simp; omega
  have z6 : ((k : Int) == 6) = false := by simp; omega
  have z2 : ((k : Int) == 2) = false := by simp; omega
  have z3 : ((k : Int) == 3) = false := by simp; omega
  have z9 : ((k : Int) == 9) = false := by simp; omega
  have z10 : ((k : Int) == 10) = false := by simp; omega
  have z11 : ((k : Int) == 11) = true := by simp; omega
  have hP : vv m k x y z = V2 := by rw [← hV2, ← hV]; exact (parts_low hmW x y z k hcl).symm
  go_enter Tryd.func11, Tryd.ntmps11
  go_wp2_with fail
  refine KW.out.mono ?_
  rintro e w1 ⟨rfl, hp, hB1⟩
  have he1 := HE.out.below hB1
  have KA1 := Lib.hid (KA.out w1 he1)
  have HB1 := Lib.hid hB1
  have hc0 : w1.cell? ⟨w.heap.size, 0, none⟩ = some (.int .i64 (W : Int)) := hp.c0
  obtain ⟨w3, hw3⟩ : ∃ w3, (w1.alloc (.cells #[.int .u64 (x : Int), .int .u64 (y : Int), .int .u64 (z : Int)] 24)).alloc (.cells #[.int .u64 (X : Int), .int .u64 (Y : Int), .int .u64 (Z : Int)] 24) = w3 := ⟨_, rfl⟩
  have HB3 : Hid (Below w1.heap.size w1 w3) := by unfold Hid; rw [← hw3]; exact ((Below.refl _ _).alloc (Nat.le_refl _) _).alloc (by simp) _
  have N1 : NumsR w3 (some ⟨w1.heap.size, 0, none⟩) [x, y, z] := by
    rw [← hw3]; exact (NumsR.lit w1 _ _ _ rfl (by simp)).below ((Below.refl _ _).alloc (Nat.le_refl _) _)
  have N2 : NumsR w3 (some ⟨w1.heap.size + 1, 0, none⟩) [X, Y, Z] := by
    rw [← hw3]; exact NumsR.lit _ _ _ _ (by simp) (by simp)
  have hp3 : Hid (Calc w3 w.heap.size W) := hp.below HB3.out hp.lt
  have he3 : OpEnv w3 := he1.below HB3.out
  have hlt3 : w.heap.size < w3.heap.size := hp3.out.lt
  have hb0 : Hid (Below w3.heap.size w3 w3) := Below.refl _ _
  have CP : ∀ W', Hid (Below w3.heap.size w3 W') → Calc W' w.heap.size W ∧ W'.cell? ⟨w.heap.size, 0, none⟩ = some (.int .i64 (W : Int)) ∧ W'.cell? ⟨w.heap.size, 1, none⟩ = some (.bool false) ∧ ∀ o, (W'.alloc o).cell? ⟨w.heap.size, 1, none⟩ = some (.bool false) := fun W' hW' => by
    have hq := hp3.out.below hW'.out hlt3
    refine ⟨hq, hq.c0, hq.c1, fun o => ?_⟩
    exact (hq.below (B := W'.heap.size) ((Below.refl _ _).alloc (Nat.le_refl _) o) hq.lt).c1
  have HCP := Lib.hid CP
  have T1 : Hid (∀ W', Hid (Below w3.heap.size w3 W') → Calls Tryd.prog 26 #[.pointer (some ⟨w.heap.size, 0, none⟩), .int .u64 (V : Int)] W' fun e w' => e = .returned (.int .u64 (V : Int)) ∧ Hid (Below w3.heap.size w3 w') ∧ Hid (Below W'.heap.size W' w')) := fun W' hW' => trim_Q h1 h lV hVV W' hW' (CP W' hW').1
  have K1 : Hid (∀ W', Hid (Below w3.heap.size w3 W') → Calls Tryd.prog 25 #[.pointer (some ⟨w.heap.size, 0, none⟩), .int .u8 (k : Int), .slice (some ⟨w1.heap.size, 0, none⟩) n 3] W' fun e w' => e = .returned (.int .u64 (V : Int)) ∧ Hid (Below w3.heap.size w3 w') ∧ Hid (Below W'.heap.size W' w')) := fun W' hW' => by
    rw [← hn]; exact of_Q h1 h he3 hok mem1 hV N1 (fun j => N1.take j) W' hW' (CP W' hW').1
  have K2 : Hid (∀ W', Hid (Below w3.heap.size w3 W') → Calls Tryd.prog 25 #[.pointer (some ⟨w.heap.size, 0, none⟩), .int .u8 (k : Int), .slice (some ⟨w1.heap.size + 1, 0, none⟩) n 3] W' fun e w' => e = .returned (.int .u64 (V : Int)) ∧ Hid (Below w3.heap.size w3 w') ∧ Hid (Below W'.heap.size W' w')) := fun W' hW' => by
    rw [← hn]; exact of_Q h1 h he3 hok mem2 hVM N2 (fun j => N2.take j) W' hW' (CP W' hW').1
  have QN : Hid (∀ W', Hid (Below w3.heap.size w3 W') → Hid (Below w3.heap.size w3 (W'.alloc (.cells #[.int .i64 (m : Int), .bool false] 48)))) := fun W' hW' => hW'.out.alloc hW'.out.size _
  have QC : Hid (∀ W' : World, Hid (Calc (W'.alloc (.cells #[.int .i64 (m : Int), .bool false] 48)) W'.heap.size m)) := fun W' => heap_alloc_new _ _
  have QM : Hid (∀ W' W2 q, Hid (Calc W' q m) → Hid (Below W'.heap.size W' W2) → Calc W2 q m ∧ W2.cell? ⟨q, 1, none⟩ = some (.bool false) ∧ W2.cell? ⟨q, 0, none⟩ = some (.int .i64 (m : Int))) := fun W' W2 q hq hb => by
    have := hq.out.below hb.out hq.out.lt
    exact ⟨this, this.c1, this.c0⟩
  have KN : Hid (∀ W', Hid (Below w3.heap.size w3 W') → Calls Tryd.prog 12 #[] W' fun e w' => e = .returned (.bool true) ∧ Hid (Below w3.heap.size w3 w')) := known_K he3
  have T2 : Hid (∀ W' q, Hid (Below w3.heap.size w3 W') → Hid (Calc W' q m) → Calls Tryd.prog 26 #[.pointer (some ⟨q, 0, none⟩), .int .u64 (V : Int)] W' fun e w' => e = .returned (.int .u64 (V2 : Int)) ∧ Hid (Below w3.heap.size w3 w') ∧ Hid (Below W'.heap.size W' w')) := fun W' q hW' hq => trim_Q hm1 hm64 lV hV2 W' hW' hq
  have K3 : Hid (∀ W' q, Hid (Below w3.heap.size w3 W') → Hid (Calc W' q m) → Calls Tryd.prog 25 #[.pointer (some ⟨q, 0, none⟩), .int .u8 (k : Int), .slice (some ⟨w1.heap.size, 0, none⟩) n 3] W' fun e w' => e = .returned (.int .u64 (V2 : Int)) ∧ Hid (Below w3.heap.size w3 w') ∧ Hid (Below W'.heap.size W' w')) := fun W' q hW' hq => by
    rw [← hn]; exact of_Q hm1 hm64 he3 hok mem1 hP N1 (fun j => N1.take j) W' hW' hq
  have HU6 := Lib.hid hU6
  have HB3F : Hid (Below w1.heap.size w1 w3) := HB3
  clear hp he1 hB1 HB3 N1 N2 hp3 he3 hlt3 CP HE he KW KA mem1 mem2 hU hU6 X2 X3 Y2 Y3 Z2 Z3 hZ lU hV hVV lV hV2 hVM hok hv ho hl lx ly lz lu hW h1 h b0 b9 hm1 hmW hm64 hk hn hn1 hn2 hP hcl hko
  all_goals
    rcases HU6.out with ⟨g1, g2⟩ | ⟨g1, rfl⟩
    · have g3 : (W : Int) < 64 := by omega
      clear HU6
      go_wp2_with (first | (go_at_call 27; refine KA1.out.mono ?_; rintro e w' ⟨rfl, rfl⟩) | (go_at_call 26; with_reducible refine (T1.out _ (by assumption)).mono ?_; rintro e w' ⟨rfl, hb, hs⟩; obtain ⟨_, hc1, hc2, hc3⟩ := HCP.out _ hb) | (go_at_call 25; with_reducible refine (K1.out _ (by assumption)).mono ?_; rintro e w' ⟨rfl, hb, hs⟩; obtain ⟨_, hc1, hc2, hc3⟩ := HCP.out _ hb) | (go_at_call 25; with_reducible refine (K2.out _ (by assumption)).mono ?_; rintro e w' ⟨rfl, hb, hs⟩; obtain ⟨_, hc1, hc2, hc3⟩ := HCP.out _ hb) | (go_at_call 25; with_reducible refine (K3.out _ _ (QN.out _ (by assumption)) (QC.out _)).mono ?_; rintro e w' ⟨rfl, hb, hs⟩; obtain ⟨_, hc1, hc2, hc3⟩ := HCP.out _ hb; obtain ⟨hq0, hq1, hq2⟩ := QM.out _ _ _ (QC.out _) hs; have hqc := Lib.hid hq0) | (go_at_call 26; with_reducible refine (T2.out _ _ (by assumption) (by assumption)).mono ?_; rintro e w' ⟨rfl, hb, hs⟩; obtain ⟨_, hc1, hc2, hc3⟩ := HCP.out _ hb; obtain ⟨hq0, hq1, hq2⟩ := QM.out _ _ _ (by assumption) hs; have hqc := Lib.hid hq0) | (go_at_call 12; with_reducible refine (KN.out _ (by assumption)).mono ?_; rintro e w' ⟨rfl, hb⟩))
      go_ret
      exact ⟨rfl, (HB1.out.trans (HB3F.out.mono HB1.out.size)).trans (Below.mono (Hid.out (p := Below w3.heap.size w3 _) (by assumption)) ((HB1.out.trans (HB3F.out.mono HB1.out.size)).size))⟩
    · have g3 : ¬ (W : Int) < 64 := by omega
      have x5 : IntKind.u64.wrap (x : Int) = (X : Int) := by simpa using X1
      have y5 : IntKind.u64.wrap (y : Int) = (Y : Int) := by simpa using Y1
      have z5 : bits .xor .u64 (z : Int) 0 = (Z : Int) := by simpa using Z1
      clear X1 Y1 Z1
      clear HU6
      go_wp2_with (first | (go_at_call 27; refine KA1.out.mono ?_; rintro e w' ⟨rfl, rfl⟩) | (go_at_call 26; with_reducible refine (T1.out _ (by assumption)).mono ?_; rintro e w' ⟨rfl, hb, hs⟩; obtain ⟨_, hc1, hc2, hc3⟩ := HCP.out _ hb) | (go_at_call 25; with_reducible refine (K1.out _ (by assumption)).mono ?_; rintro e w' ⟨rfl, hb, hs⟩; obtain ⟨_, hc1, hc2, hc3⟩ := HCP.out _ hb) | (go_at_call 25; with_reducible refine (K2.out _ (by assumption)).mono ?_; rintro e w' ⟨rfl, hb, hs⟩; obtain ⟨_, hc1, hc2, hc3⟩ := HCP.out _ hb) | (go_at_call 25; with_reducible refine (K3.out _ _ (QN.out _ (by assumption)) (QC.out _)).mono ?_; rintro e w' ⟨rfl, hb, hs⟩; obtain ⟨_, hc1, hc2, hc3⟩ := HCP.out _ hb; obtain ⟨hq0, hq1, hq2⟩ := QM.out _ _ _ (QC.out _) hs; have hqc := Lib.hid hq0) | (go_at_call 26; with_reducible refine (T2.out _ _ (by assumption) (by assumption)).mono ?_; rintro e w' ⟨rfl, hb, hs⟩; obtain ⟨_, hc1, hc2, hc3⟩ := HCP.out _ hb; obtain ⟨hq0, hq1, hq2⟩ := QM.out _ _ _ (by assumption) hs; have hqc := Lib.hid hq0) | (go_at_call 12; with_reducible refine (KN.out _ (by assumption)).mono ?_; rintro e w' ⟨rfl, hb⟩))
      go_ret
      exact ⟨rfl, (HB1.out.trans (HB3F.out.mono HB1.out.size)).trans (Below.mono (Hid.out (p := Below w3.heap.size w3 _) (by assumption)) ((HB1.out.trans (HB3F.out.mono HB1.out.size)).size))⟩
end Go.Proofs.YtldcekejbnhloaaDoor
