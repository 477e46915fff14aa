/-
  Layer word: Apply, Trim and Signed.
-/
import Derived.Test.YtldcekejbnhloaaDoorWrdE
set_option linter.unusedSectionVars false
set_option linter.unusedVariables false
namespace Go.Proofs.YtldcekejbnhloaaDoor.Words
open Go.RowKit Go.Lib Ops
open Go.RowKit (Below)

theorem bits_of (x y : Int) (w : World) : (Instr.field 55 (.agg #[.int .i64 x, .int .u64 y]) 1).run Tryd.prog w = .ok (.int .u64 y) w := by rfl
def okOp (o : Nat) : Prop := 2 ≤ o ∧ o < 22
instance (o : Nat) : Decidable (okOp o) := inferInstanceAs (Decidable (_ ∧ _))
/-- What Apply says of an operator, a width and a number of arguments. -/
def apE (o : Nat) (n : Int) (l : Nat) : Int := if n < 1 ∨ 64 < n then 3 else if ¬ okOp o then 3 else if l ≠ arityN o then 2 else 0
/-- Its word. -/
def apV (o : Nat) (n : Int) (ns : List Nat) : Nat := if apE o n ns.length = 0 then res n.toNat o (ns.getD 0 0 % 2 ^ n.toNat) (ns.getD 1 0 % 2 ^ n.toNat) (ns.getD 2 0 % 2 ^ n.toNat) else 0
theorem apE_ok {o W : Nat} (h1 : 1 ≤ W) (h : W ≤ 64) (ho : okOp o) {l : Nat} (hl : l = arityN o) : apE o (W : Int) l = 0 := by
  unfold apE; rw [if_neg (by omega), if_neg (by simpa using ho), if_neg (by simpa using hl)]
theorem apV_ok {o W : Nat} (h1 : 1 ≤ W) (h : W ≤ 64) (ho : okOp o) {ns : List Nat} (hl : ns.length = arityN o) : apV o (W : Int) ns = res W o (ns.getD 0 0 % 2 ^ W) (ns.getD 1 0 % 2 ^ W) (ns.getD 2 0 % 2 ^ W) := by
  unfold apV; rw [if_pos (apE_ok h1 h ho hl)]; rfl

theorem arityN_ok {o : Nat} (h : okOp o) : (o < 4 ∧ arityN o = 1) ∨ (4 ≤ o ∧ o < 21 ∧ arityN o = 2) ∨ (o = 21 ∧ arityN o = 3) := by
  have := arityN_cases o; unfold okOp at h; omega
theorem raw_any {W : Nat} (h1 : 1 ≤ W) (h : W ≤ 64) (o : Nat) (ho : okOp o) (ns : List Nat) (hn : ∀ x ∈ ns, x < 18446744073709551616) (hl : ns.length = arityN o) (ad : Option Addr) (c : Nat) (w : World) (hN : NumsR w ad ns) :
    Calls Tryd.prog 30 #[.int .u8 (o : Int), .int .i64 (W : Int), .slice ad ns.length c] w fun e w' => Raw W o (ns.getD 0 0 % 2 ^ W) (ns.getD 1 0 % 2 ^ W) (ns.getD 2 0 % 2 ^ W) e ∧ Below w.heap.size w w' := by
  have ho' := ho
  unfold okOp at ho'
  rcases arityN_ok ho with ⟨h4, ha⟩ | ⟨h4, h5, ha⟩ | ⟨h4, ha⟩
  · obtain ⟨x, rfl⟩ : ∃ x, ns = [x] := by
      rw [ha] at hl; match ns, hl with | [x], _ => exact ⟨x, rfl⟩
    have := raw_one h1 h o ho'.1 h4 x (hn x (by simp)) ad c w hN
    simpa using this
  · obtain ⟨x, y, rfl⟩ : ∃ x y, ns = [x, y] := by
      rw [ha] at hl; match ns, hl with | [x, y], _ => exact ⟨x, y, rfl⟩
    have := raw_two h1 h o h4 h5 x (hn x (by simp)) y (hn y (by simp)) ad c w hN
    simpa using this
  · obtain ⟨x, y, z, rfl⟩ : ∃ x y z, ns = [x, y, z] := by
      rw [ha] at hl; match ns, hl with | [x, y, z], _ => exact ⟨x, y, z, rfl⟩
    exact raw_three h1 h o (by omega) (by omega) x (hn x (by simp)) y (hn y (by simp)) z (hn z (by simp)) ad c w hN

theorem warity_ok (o : Nat) (ho : okOp o) (w : World) (he : OpEnv w) : Calls Tryd.prog 28 #[.int .u8 (o : Int)] w fun e w' => e = .returned (.tuple #[.int .i64 (arityN o : Int), .int .i64 0]) ∧ w = w' := by
  have KA : Hid (Calls Tryd.prog 27 #[.int .u8 (o : Int)] w fun e w' => e = .returned (.tuple #[.int .i64 (arityN o : Int), .int .i64 0]) ∧ w = w') := by
    have := arity_two o (by unfold okOp at ho; omega) w he
    unfold arA arE at this
    rwa [if_pos (by unfold okOp at ho; omega), if_pos (by unfold okOp at ho; omega)] at this
  have hd : ¬ (o : Int) < 2 := by unfold okOp at ho; omega
  obtain ⟨r, hr⟩ : ∃ r, arityN o = r := ⟨_, rfl⟩
  rw [hr] at KA ⊢
  clear he ho hr
  go_enter Tryd.func28, Tryd.ntmps28
  go_wp2_with (go_at_call 27; refine KA.out.mono ?_; rintro e w' ⟨rfl, rfl⟩)
  go_ret2
  exact ⟨rfl, rfl⟩
theorem warity_bad (o : Nat) (h1 : o ≤ 255) (ho : ¬ okOp o) (w : World) (he : OpEnv w) : Calls Tryd.prog 28 #[.int .u8 (o : Int)] w fun e w' => e = .returned (.tuple #[.int .i64 0, .int .i64 3]) ∧ w = w' := by
  by_cases h2 : o < 2
  · have hd : (o : Int) < 2 := by omega
    clear he ho
    go_enter Tryd.func28, Tryd.ntmps28
    go_wp2
    go_ret2
    exact ⟨rfl, rfl⟩
  · have KA : Hid (Calls Tryd.prog 27 #[.int .u8 (o : Int)] w fun e w' => e = .returned (.tuple #[.int .i64 0, .int .i64 3]) ∧ w = w') := by
      have := arity_two o h1 w he
      unfold arA arE at this
      rwa [if_neg (by unfold okOp at ho; omega), if_neg (by unfold okOp at ho; omega)] at this
    have hd : ¬ (o : Int) < 2 := by omega
    clear he ho
    go_enter Tryd.func28, Tryd.ntmps28
    go_wp2_with (go_at_call 27; refine KA.out.mono ?_; rintro e w' ⟨rfl, rfl⟩)
    go_ret2
    exact ⟨rfl, rfl⟩
set_option maxRecDepth 20000 in
set_option maxHeartbeats 4000000 in
theorem apply_any (o : Nat) (ho : o ≤ 255) (n : Int) (ns : List Nat) (hn : ∀ x ∈ ns, x < 18446744073709551616) (hm : ns.length ≤ maxLen) (ad : Option Addr) (c : Nat) (w : World) (hN : NumsR w ad ns) (he : OpEnv w) :
    Calls Tryd.prog 13 #[.int .u8 (o : Int), .int .i64 n, .slice ad ns.length c] w fun e w' => e = .returned (.tuple #[.int .u64 (apV o n ns : Nat), .int .i64 (apE o n ns.length)]) ∧ Below w.heap.size w w' := by
  by_cases hb : n < 1 ∨ 64 < n
  · have hE : apE o n ns.length = 3 := by unfold apE; rw [if_pos hb]
    have hV : apV o n ns = 0 := by unfold apV; rw [hE]; rfl
    have KC := Lib.hid (check_is n w)
    rw [show chk n = 3 by unfold chk; rw [if_pos hb]] at KC
    rw [hE, hV]
    clear hE hV hb hn hm hN he
    go_enter Tryd.func13, Tryd.ntmps13
    go_wp2_with (go_at_call 20; refine KC.out.mono ?_; rintro e w' ⟨rfl, rfl⟩)
    go_ret2
    exact ⟨rfl, Below.refl _ _⟩
  have KC := Lib.hid (check_is n w)
  rw [show chk n = 0 by unfold chk; rw [if_neg hb]] at KC
  by_cases hk : okOp o
  · have KA := Lib.hid (warity_ok o hk w he)
    by_cases hl : ns.length = arityN o
    · obtain ⟨W, rfl⟩ : ∃ W : Nat, n = W := ⟨n.toNat, by omega⟩
      have h1 : 1 ≤ W := by omega
      have h : W ≤ 64 := by omega
      rw [apE_ok h1 h hk hl, apV_ok h1 h hk hl]
      have KR := Lib.hid (raw_any h1 h o hk ns hn hl ad c w hN)
      have KT : Hid (∀ (r : Nat), r < 18446744073709551616 → ∀ w', Calls Tryd.prog 29 #[.int .i64 (W : Int), .int .u64 (r : Int)] w' fun e w2 => e = .returned (W2 W (r % 2 ^ W)) ∧ Below w'.heap.size w' w2) := fun r hr w' => trimmed_is h1 h r hr w'
      rw [← hl] at KA
      clear hN he hn hk hb h1 h hl
      unfold W2 at KT
      obtain ⟨V, hV⟩ : ∃ V, res W o (ns.getD 0 0 % 2 ^ W) (ns.getD 1 0 % 2 ^ W) (ns.getD 2 0 % 2 ^ W) = V := ⟨_, rfl⟩
      unfold Raw at KR
      rw [hV] at KR ⊢
      clear hV
      have FL : ∀ w', (Instr.field 55 (.agg #[.int .i64 (W : Int), .int .u64 (V : Int)]) 1).run Tryd.prog w' = .ok (.int .u64 (V : Int)) w' := fun w' => bits_of _ _ w'
      go_enter Tryd.func13, Tryd.ntmps13
      go_wp2_with (first | (go_at_call 20; refine KC.out.mono ?_; rintro e w' ⟨rfl, rfl⟩) | (go_at_call 28; refine KA.out.mono ?_; rintro e w' ⟨rfl, rfl⟩) | (go_at_call 30; refine KR.out.mono ?_; rintro e w2 ⟨⟨q, rfl, hq, hq2⟩, hB2⟩; have HB2 := Lib.hid hB2; have HQ := Lib.hid hq; have HQ2 := Lib.hid hq2; clear hB2 hq hq2) | (go_at_call 29; refine (KT.out _ HQ.out _).mono ?_; rw [HQ2.out]; rintro e w3 ⟨rfl, hB3⟩; have HB3 := Lib.hid (HB2.out.trans (hB3.mono HB2.out.size)); clear hB3))
      go_ret2
      exact ⟨rfl, HB3.out⟩
    · have hE : apE o n ns.length = 2 := by unfold apE; rw [if_neg hb, if_neg (by simpa using hk), if_pos hl]
      have hV : apV o n ns = 0 := by unfold apV; rw [hE]; rfl
      have hd : ((ns.length : Int) != (arityN o : Int)) = true := by simp; omega
      have hd2 : ((ns.length : Int) == (arityN o : Int)) = false := by simp; omega
      obtain ⟨r, hr⟩ : ∃ r, arityN o = r := ⟨_, rfl⟩
      have hl2 : ¬ ns.length = r := by rw [← hr]; exact hl
      rw [hE, hV]
      rw [hr] at KA hd hd2
      clear hE hV hb hn hm hN he hk hr hl
      go_enter Tryd.func13, Tryd.ntmps13
      go_wp2_with (first | (go_at_call 20; refine KC.out.mono ?_; rintro e w' ⟨rfl, rfl⟩) | (go_at_call 28; refine KA.out.mono ?_; rintro e w' ⟨rfl, rfl⟩))
      go_ret2
      exact ⟨rfl, Below.refl _ _⟩
  · have hE : apE o n ns.length = 3 := by unfold apE; rw [if_neg hb, if_pos hk]
    have hV : apV o n ns = 0 := by unfold apV; rw [hE]; rfl
    have KA := Lib.hid (warity_bad o ho hk w he)
    rw [hE, hV]
    clear hE hV hb hn hm hN he hk
    go_enter Tryd.func13, Tryd.ntmps13
    go_wp2_with (first | (go_at_call 20; refine KC.out.mono ?_; rintro e w' ⟨rfl, rfl⟩) | (go_at_call 28; refine KA.out.mono ?_; rintro e w' ⟨rfl, rfl⟩))
    go_ret2
    exact ⟨rfl, Below.refl _ _⟩
/-- What Trim answers. -/
def trV (n : Int) (v : Nat) : Nat := if n < 1 ∨ 64 < n then 0 else v % 2 ^ n.toNat
def sgV (n : Int) (v : Nat) : Int := if n < 1 ∨ 64 < n then 0 else sgn n.toNat (v % 2 ^ n.toNat)
theorem trim_any (n : Int) (v : Nat) (hv : v < 18446744073709551616) (w : World) :
    Calls Tryd.prog 16 #[.int .i64 n, .int .u64 (v : Int)] w fun e w' => e = .returned (.tuple #[.int .u64 (trV n v : Nat), .int .i64 (chk n)]) ∧ Below w.heap.size w w' := by
  have KC := Lib.hid (check_is n w)
  by_cases hb : n < 1 ∨ 64 < n
  · have hE : chk n = 3 := by unfold chk; rw [if_pos hb]
    have hV : trV n v = 0 := by unfold trV; rw [if_pos hb]
    rw [hE] at KC ⊢
    rw [hV]
    clear hE hV hb hv
    go_enter Tryd.func16, Tryd.ntmps16
    go_wp2_with (go_at_call 20; refine KC.out.mono ?_; rintro e w' ⟨rfl, rfl⟩)
    go_ret2
    exact ⟨rfl, Below.refl _ _⟩
  · have hE : chk n = 0 := by unfold chk; rw [if_neg hb]
    have hV : trV n v = v % 2 ^ n.toNat := by unfold trV; rw [if_neg hb]
    obtain ⟨W, rfl⟩ : ∃ W : Nat, n = W := ⟨n.toNat, by omega⟩
    have KT := Lib.hid (trimmed_is (W := W) (by omega) (by omega) v hv w)
    unfold W2 at KT
    rw [hE] at KC ⊢
    rw [hV]
    rw [Int.toNat_natCast]
    obtain ⟨V, hV2⟩ : ∃ V, v % 2 ^ W = V := ⟨_, rfl⟩
    rw [hV2] at KT ⊢
    have FL : ∀ w', (Instr.field 55 (.agg #[.int .i64 (W : Int), .int .u64 (V : Int)]) 1).run Tryd.prog w' = .ok (.int .u64 (V : Int)) w' := fun w' => bits_of _ _ w'
    clear hE hV hV2 hb hv
    go_enter Tryd.func16, Tryd.ntmps16
    go_wp2_with (first | (go_at_call 20; refine KC.out.mono ?_; rintro e w' ⟨rfl, rfl⟩) | (go_at_call 29; refine KT.out.mono ?_; rintro e w' ⟨rfl, hB⟩; have HB := Lib.hid hB; clear hB))
    go_ret2
    exact ⟨rfl, HB.out⟩
theorem signed_any (n : Int) (v : Nat) (hv : v < 18446744073709551616) (w : World) :
    Calls Tryd.prog 18 #[.int .i64 n, .int .u64 (v : Int)] w fun e w' => e = .returned (.tuple #[.int .i64 (sgV n v), .int .i64 (chk n)]) ∧ Below w.heap.size w w' := by
  have KC := Lib.hid (check_is n w)
  by_cases hb : n < 1 ∨ 64 < n
  · have hE : chk n = 3 := by unfold chk; rw [if_pos hb]
    have hV : sgV n v = 0 := by unfold sgV; rw [if_pos hb]
    rw [hE] at KC ⊢
    rw [hV]
    clear hE hV hb hv
    go_enter Tryd.func18, Tryd.ntmps18
    go_wp2_with (go_at_call 20; refine KC.out.mono ?_; rintro e w' ⟨rfl, rfl⟩)
    go_ret2
    exact ⟨rfl, Below.refl _ _⟩
  · have hE : chk n = 0 := by unfold chk; rw [if_neg hb]
    have hV : sgV n v = sgn n.toNat (v % 2 ^ n.toNat) := by unfold sgV; rw [if_neg hb]
    obtain ⟨W, rfl⟩ : ∃ W : Nat, n = W := ⟨n.toNat, by omega⟩
    rw [Int.toNat_natCast] at hV
    have KT := Lib.hid (trimmed_is (W := W) (by omega) (by omega) v hv w)
    have KS : Hid (∀ w', Calls Tryd.prog 34 #[W2 W (v % 2 ^ W)] w' fun e w2 => e = .returned (.int .i64 (sgn W (v % 2 ^ W))) ∧ Below w'.heap.size w' w2) := fun w' => m_signed (by omega) (by omega) (b := 0) (Nat.mod_lt _ (two_pos W)) (two_pos W) w'
    unfold W2 at KT KS
    rw [hE] at KC ⊢
    rw [hV]
    obtain ⟨r, hr⟩ : ∃ r, v % 2 ^ W = r := ⟨_, rfl⟩
    rw [hr] at KT KS ⊢
    obtain ⟨s, hs⟩ : ∃ s, sgn W r = s := ⟨_, rfl⟩
    rw [hs] at KS ⊢
    clear hE hV hb hv hr hs
    go_enter Tryd.func18, Tryd.ntmps18
    go_wp2_with (first | (go_at_call 20; refine KC.out.mono ?_; rintro e w' ⟨rfl, rfl⟩) | (go_at_call 29; refine KT.out.mono ?_; rintro e w2 ⟨rfl, hB⟩; have HB := Lib.hid hB; clear hB) | (go_at_call 34; refine (KS.out _).mono ?_; rintro e w3 ⟨rfl, hB⟩; have HB2 := Lib.hid (HB.out.trans (hB.mono HB.out.size)); clear hB))
    go_ret2
    exact ⟨rfl, HB2.out⟩
end Go.Proofs.YtldcekejbnhloaaDoor.Words
