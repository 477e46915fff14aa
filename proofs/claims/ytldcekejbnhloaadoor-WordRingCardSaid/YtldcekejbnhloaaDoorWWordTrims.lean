/-
  WordTrims' walk.
-/
import Derived.Test.YtldcekejbnhloaaDoorWrdK
import Derived.Test.YtldcekejbnhloaaDoorRowLaidOp
namespace Go.Proofs.YtldcekejbnhloaaDoor
open Go.RowKit Go.Lib Ops Words
open Go.RowKit (Below)

theorem u64_nat {n : Int} (h : (Lit.int .u64 n).wf = true) : ∃ v : Nat, n = v ∧ v < 18446744073709551616 := by
  unfold Lit.wf at h
  rw [Bool.and_eq_true, decide_eq_true_eq, decide_eq_true_eq] at h
  obtain ⟨h0, h1⟩ := h
  have h0 : 0 ≤ n := h0
  have h1 : n ≤ 18446744073709551615 := h1
  exact ⟨n.toNat, by omega, by omega⟩
set_option maxRecDepth 20000 in
theorem wordTrims_walk (w : World) (n : Int) (_ : (Lit.int .i64 n).wf = true) (x : Int) (hx : (Lit.int .u64 x).wf = true) (he : Env w) :
    Calls Tryd.prog 5 #[.int .i64 n, .int .u64 x] w fun e w' => e = .returned (.bool true) ∧ Below w.heap.size w w' := by
  obtain ⟨v, rfl, hv⟩ := u64_nat hx
  have K1 := Lib.hid (trim_any n v hv w)
  have K2 : Hid (∀ W, Calls Tryd.prog 17 #[.int .i64 n, .int .u64 (v : Int)] W fun e w' => e = .returned (.tuple #[.int .u64 (trV n v : Nat), .int .i64 (chk n)]) ∧ W = w') := fun W => rtrim_any n v hv W
  have K3 : Hid (∀ W, Calls Tryd.prog 18 #[.int .i64 n, .int .u64 (v : Int)] W fun e w' => e = .returned (.tuple #[.int .i64 (sgV n v), .int .i64 (chk n)]) ∧ Below W.heap.size W w') := fun W => signed_any n v hv W
  have K4 : Hid (∀ W, Calls Tryd.prog 19 #[.int .i64 n, .int .u64 (v : Int)] W fun e w' => e = .returned (.tuple #[.int .i64 (sgV n v), .int .i64 (chk n)]) ∧ W = w') := fun W => rsigned_any n v hv W
  have K5 : Hid (∀ W, Calls Tryd.prog 20 #[.int .i64 n] W fun e w' => e = .returned (.int .i64 (chk n)) ∧ W = w') := fun W => check_is n W
  have K6 : Hid (∀ W, Calls Tryd.prog 21 #[.int .i64 n] W fun e w' => e = .returned (.int .i64 (chk n)) ∧ W = w') := fun W => rcheck_is n W
  have HE := Lib.hid he
  have KN : Hid (∀ W, Below w.heap.size w W → Calls Tryd.prog 12 #[] W fun e w' => e = .returned (.bool true) ∧ Below w.heap.size w w') := fun W hW => (Words.known_any W (HE.out.below hW)).mono fun e w' ⟨h, hb⟩ => ⟨h, hW.trans (hb.mono hW.size)⟩
  obtain ⟨t, ht⟩ : ∃ t, trV n v = t := ⟨_, rfl⟩
  obtain ⟨s, hs⟩ : ∃ t, sgV n v = t := ⟨_, rfl⟩
  obtain ⟨f, hf⟩ : ∃ t, chk n = t := ⟨_, rfl⟩
  rw [ht, hf] at K1 K2
  rw [hs, hf] at K3 K4
  rw [hf] at K5 K6
  clear ht hs hf hx hv he
  go_enter Tryd.func5, Tryd.ntmps5
  go_wp2_with (first | (go_at_call 16; refine K1.out.mono ?_; rintro e w1 ⟨rfl, hB⟩; have HB1 := Lib.hid hB; clear hB) | (go_at_call 17; refine (K2.out _).mono ?_; rintro e w' ⟨rfl, rfl⟩) | (go_at_call 18; refine (K3.out _).mono ?_; rintro e w2 ⟨rfl, hB⟩; have HB2 := Lib.hid (HB1.out.trans (hB.mono HB1.out.size)); clear hB) | (go_at_call 19; refine (K4.out _).mono ?_; rintro e w' ⟨rfl, rfl⟩) | (go_at_call 20; refine (K5.out _).mono ?_; rintro e w' ⟨rfl, rfl⟩) | (go_at_call 21; refine (K6.out _).mono ?_; rintro e w' ⟨rfl, rfl⟩) | (go_at_call 12; refine (KN.out _ HB2.out).mono ?_; rintro e w3 ⟨rfl, hB⟩; have HB3 := Lib.hid hB; clear hB))
  go_ret
  exact ⟨rfl, HB3.out⟩
end Go.Proofs.YtldcekejbnhloaaDoor
