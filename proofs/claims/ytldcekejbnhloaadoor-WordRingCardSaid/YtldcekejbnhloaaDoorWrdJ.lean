/-
  Layer word: the reference's Apply, Trim and Signed.
-/
import Derived.Test.YtldcekejbnhloaaDoorWrdI
set_option linter.unusedSectionVars false
set_option linter.unusedVariables false
namespace Go.Proofs.YtldcekejbnhloaaDoor.Words
open Go.RowKit Go.Lib Ops
open Go.RowKit (Below)

theorem rar_ok (o : Nat) (ho : okOp o) (w : World) : Calls Tryd.prog 31 #[.int .u8 (o : Int)] w fun e w' => e = .returned (.tuple #[.int .i64 (arityN o : Int), .int .i64 0]) ∧ w = w' := by
  unfold okOp at ho
  have := rarity_two o (by omega) w
  unfold arA arE at this
  rwa [if_pos (by omega), if_pos (by omega)] at this
set_option maxRecDepth 20000 in
set_option maxHeartbeats 4000000 in
theorem rapply_1 {W : Nat} (h1 : 1 ≤ W) (h : W ≤ 64) (o : Nat) (ho : okOp o) (hl : arityN o = 1) (x : Nat) (hx : x < 18446744073709551616) (ad : Option Addr) (c : Nat) (w : World) (hN : NumsR w ad [x]) :
    Calls Tryd.prog 15 #[.int .u8 (o : Int), .int .i64 (W : Int), .slice ad 1 c] w fun e w' => e = .returned (.tuple #[.int .u64 (res W o (x % 2 ^ W) 0 0 : Nat), .int .i64 0]) ∧ w = w' := by
  obtain ⟨bk, off, rfl, hlt, hc⟩ := hN.look (by simp)
  have c0 : w.cell? ⟨bk, off, none⟩ = some (.int .u64 (x : Int)) := hc 0 (by simp)
  have KC := Lib.hid (rcheck_is (W : Int) w)
  rw [show chk (W : Int) = 0 by unfold chk; rw [if_neg (by omega)]] at KC
  have KA := Lib.hid (rar_ok o ho w)
  rw [hl] at KA
  have hd : ¬ (o : Int) < 2 := by unfold okOp at ho; omega
  have KT0 := Lib.hid (rtrim_is h1 h x hx w)
  have KR := Lib.hid (rs_all (a := x % 2 ^ W) (b := 0) (c := 0) h1 h (Nat.mod_lt _ (two_pos W)) (two_pos W) (two_pos W) w o ho)
  have KU : Hid (∀ r : Nat, r < 18446744073709551616 → Calls Tryd.prog 32 #[.int .i64 (W : Int), .int .u64 (r : Int)] w fun e w' => e = .returned (.int .u64 (r % 2 ^ W : Nat)) ∧ w = w') := fun r hr => rtrim_is h1 h r hr w
  unfold Raw at KR
  obtain ⟨r, hrr⟩ : ∃ r, x % 2 ^ W = r := ⟨_, rfl⟩
  rw [hrr] at KT0 KR ⊢
  obtain ⟨V, hV⟩ : ∃ V, res W o r 0 0 = V := ⟨_, rfl⟩
  rw [hV] at KR ⊢
  clear h1 h ho hl hlt hc hN hV hrr hx
  go_enter Tryd.func15, Tryd.ntmps15
  go_wp2_with (first | (go_at_call 21; refine KC.out.mono ?_; rintro e w' ⟨rfl, rfl⟩) | (go_at_call 31; refine KA.out.mono ?_; rintro e w' ⟨rfl, rfl⟩) | (go_at_call 32; with_reducible refine KT0.out.mono ?_; rintro e w' ⟨rfl, rfl⟩) | (go_at_call 33; refine KR.out.mono ?_; rintro e w' ⟨⟨q, rfl, hq, hq2⟩, rfl⟩; have HQ := Lib.hid hq; have HQ2 := Lib.hid hq2; clear hq hq2) | (go_at_call 32; refine (KU.out _ HQ.out).mono ?_; rw [HQ2.out]; rintro e w' ⟨rfl, rfl⟩))
  go_ret2
  exact ⟨rfl, rfl⟩
set_option maxRecDepth 20000 in
set_option maxHeartbeats 4000000 in
theorem rapply_2 {W : Nat} (h1 : 1 ≤ W) (h : W ≤ 64) (o : Nat) (ho : okOp o) (hl : arityN o = 2) (x : Nat) (hx : x < 18446744073709551616) (y : Nat) (hy : y < 18446744073709551616) (ad : Option Addr) (c : Nat) (w : World) (hN : NumsR w ad [x, y]) :
    Calls Tryd.prog 15 #[.int .u8 (o : Int), .int .i64 (W : Int), .slice ad 2 c] w fun e w' => e = .returned (.tuple #[.int .u64 (res W o (x % 2 ^ W) (y % 2 ^ W) 0 : Nat), .int .i64 0]) ∧ w = w' := by
  obtain ⟨bk, off, rfl, hlt, hc⟩ := hN.look (by simp)
  have c0 : w.cell? ⟨bk, off, none⟩ = some (.int .u64 (x : Int)) := hc 0 (by simp)
  have c1 : w.cell? ⟨bk, off + 1, none⟩ = some (.int .u64 (y : Int)) := hc 1 (by simp)
  have KC := Lib.hid (rcheck_is (W : Int) w)
  rw [show chk (W : Int) = 0 by unfold chk; rw [if_neg (by omega)]] at KC
  have KA := Lib.hid (rar_ok o ho w)
  rw [hl] at KA
  have hd : ¬ (o : Int) < 2 := by unfold okOp at ho; omega
  have KT0 := Lib.hid (rtrim_is h1 h x hx w)
  have KT1 := Lib.hid (rtrim_is h1 h y hy w)
  have KR := Lib.hid (rs_all (a := x % 2 ^ W) (b := y % 2 ^ W) (c := 0) h1 h (Nat.mod_lt _ (two_pos W)) (Nat.mod_lt _ (two_pos W)) (two_pos W) w o ho)
  have KU : Hid (∀ r : Nat, r < 18446744073709551616 → Calls Tryd.prog 32 #[.int .i64 (W : Int), .int .u64 (r : Int)] w fun e w' => e = .returned (.int .u64 (r % 2 ^ W : Nat)) ∧ w = w') := fun r hr => rtrim_is h1 h r hr w
  unfold Raw at KR
  obtain ⟨r, hrr⟩ : ∃ r, x % 2 ^ W = r := ⟨_, rfl⟩
  rw [hrr] at KT0 KR ⊢
  obtain ⟨s, hss⟩ : ∃ r, y % 2 ^ W = r := ⟨_, rfl⟩
  rw [hss] at KT1 KR ⊢
  obtain ⟨V, hV⟩ : ∃ V, res W o r s 0 = V := ⟨_, rfl⟩
  rw [hV] at KR ⊢
  clear h1 h ho hl hlt hc hN hV hrr hss hx hy
  go_enter Tryd.func15, Tryd.ntmps15
  go_wp2_with (first | (go_at_call 21; refine KC.out.mono ?_; rintro e w' ⟨rfl, rfl⟩) | (go_at_call 31; refine KA.out.mono ?_; rintro e w' ⟨rfl, rfl⟩) | (go_at_call 32; with_reducible refine KT0.out.mono ?_; rintro e w' ⟨rfl, rfl⟩) | (go_at_call 32; with_reducible refine KT1.out.mono ?_; rintro e w' ⟨rfl, rfl⟩) | (go_at_call 33; refine KR.out.mono ?_; rintro e w' ⟨⟨q, rfl, hq, hq2⟩, rfl⟩; have HQ := Lib.hid hq; have HQ2 := Lib.hid hq2; clear hq hq2) | (go_at_call 32; refine (KU.out _ HQ.out).mono ?_; rw [HQ2.out]; rintro e w' ⟨rfl, rfl⟩))
  go_ret2
  exact ⟨rfl, rfl⟩
set_option maxRecDepth 20000 in
set_option maxHeartbeats 4000000 in
theorem rapply_3 {W : Nat} (h1 : 1 ≤ W) (h : W ≤ 64) (o : Nat) (ho : okOp o) (hl : arityN o = 3) (x : Nat) (hx : x < 18446744073709551616) (y : Nat) (hy : y < 18446744073709551616) (z : Nat) (hz : z < 18446744073709551616) (ad : Option Addr) (c : Nat) (w : World) (hN : NumsR w ad [x, y, z]) :
    Calls Tryd.prog 15 #[.int .u8 (o : Int), .int .i64 (W : Int), .slice ad 3 c] w fun e w' => e = .returned (.tuple #[.int .u64 (res W o (x % 2 ^ W) (y % 2 ^ W) (z % 2 ^ W)  : Nat), .int .i64 0]) ∧ w = w' := by
  obtain ⟨bk, off, rfl, hlt, hc⟩ := hN.look (by simp)
  have c0 : w.cell? ⟨bk, off, none⟩ = some (.int .u64 (x : Int)) := hc 0 (by simp)
  have c1 : w.cell? ⟨bk, off + 1, none⟩ = some (.int .u64 (y : Int)) := hc 1 (by simp)
  have c2 : w.cell? ⟨bk, off + 2, none⟩ = some (.int .u64 (z : Int)) := hc 2 (by simp)
  have KC := Lib.hid (rcheck_is (W : Int) w)
  rw [show chk (W : Int) = 0 by unfold chk; rw [if_neg (by omega)]] at KC
  have KA := Lib.hid (rar_ok o ho w)
  rw [hl] at KA
  have hd : ¬ (o : Int) < 2 := by unfold okOp at ho; omega
  have KT0 := Lib.hid (rtrim_is h1 h x hx w)
  have KT1 := Lib.hid (rtrim_is h1 h y hy w)
  have KT2 := Lib.hid (rtrim_is h1 h z hz w)
  have KR := Lib.hid (rs_all (a := x % 2 ^ W) (b := y % 2 ^ W) (c := z % 2 ^ W) h1 h (Nat.mod_lt _ (two_pos W)) (Nat.mod_lt _ (two_pos W)) (Nat.mod_lt _ (two_pos W)) w o ho)
  have KU : Hid (∀ r : Nat, r < 18446744073709551616 → Calls Tryd.prog 32 #[.int .i64 (W : Int), .int .u64 (r : Int)] w fun e w' => e = .returned (.int .u64 (r % 2 ^ W : Nat)) ∧ w = w') := fun r hr => rtrim_is h1 h r hr w
  unfold Raw at KR
  obtain ⟨r, hrr⟩ : ∃ r, x % 2 ^ W = r := ⟨_, rfl⟩
  rw [hrr] at KT0 KR ⊢
  obtain ⟨s, hss⟩ : ∃ r, y % 2 ^ W = r := ⟨_, rfl⟩
  rw [hss] at KT1 KR ⊢
  obtain ⟨t, htt⟩ : ∃ r, z % 2 ^ W = r := ⟨_, rfl⟩
  rw [htt] at KT2 KR ⊢
  obtain ⟨V, hV⟩ : ∃ V, res W o r s t  = V := ⟨_, rfl⟩
  rw [hV] at KR ⊢
  clear h1 h ho hl hlt hc hN hV hrr hss htt hx hy hz
  go_enter Tryd.func15, Tryd.ntmps15
  go_wp2_with (first | (go_at_call 21; refine KC.out.mono ?_; rintro e w' ⟨rfl, rfl⟩) | (go_at_call 31; refine KA.out.mono ?_; rintro e w' ⟨rfl, rfl⟩) | (go_at_call 32; with_reducible refine KT0.out.mono ?_; rintro e w' ⟨rfl, rfl⟩) | (go_at_call 32; with_reducible refine KT1.out.mono ?_; rintro e w' ⟨rfl, rfl⟩) | (go_at_call 32; with_reducible refine KT2.out.mono ?_; rintro e w' ⟨rfl, rfl⟩) | (go_at_call 33; refine KR.out.mono ?_; rintro e w' ⟨⟨q, rfl, hq, hq2⟩, rfl⟩; have HQ := Lib.hid hq; have HQ2 := Lib.hid hq2; clear hq hq2) | (go_at_call 32; refine (KU.out _ HQ.out).mono ?_; rw [HQ2.out]; rintro e w' ⟨rfl, rfl⟩))
  go_ret2
  exact ⟨rfl, rfl⟩
theorem rapply_any (o : Nat) (ho : o ≤ 255) (n : Int) (ns : List Nat) (hn : ∀ x ∈ ns, x < 18446744073709551616) (hm : ns.length ≤ maxLen) (ad : Option Addr) (c : Nat) (w : World) (hN : NumsR w ad ns) :
    Calls Tryd.prog 15 #[.int .u8 (o : Int), .int .i64 n, .slice ad ns.length c] w fun e w' => e = .returned (.tuple #[.int .u64 (apV o n ns : Nat), .int .i64 (apE o n ns.length)]) ∧ w = w' := by
  by_cases hb : n < 1 ∨ 64 < n
  · have hE : apE o n ns.length = 3 := by unfold apE; rw [if_pos hb]
    have hV : apV o n ns = 0 := by unfold apV; rw [hE]; rfl
    have KC := Lib.hid (rcheck_is n w)
    rw [show chk n = 3 by unfold chk; rw [if_pos hb]] at KC
    rw [hE, hV]
    clear hE hV hb hn hm hN
    go_enter Tryd.func15, Tryd.ntmps15
    go_wp2_with (go_at_call 21; refine KC.out.mono ?_; rintro e w' ⟨rfl, rfl⟩)
    go_ret2
    exact ⟨rfl, rfl⟩
  have KC := Lib.hid (rcheck_is n w)
  rw [show chk n = 0 by unfold chk; rw [if_neg hb]] at KC
  by_cases hk : okOp o
  · have KA := Lib.hid (rar_ok o hk w)
    have hd : ¬ (o : Int) < 2 := by unfold okOp at hk; omega
    by_cases hl : ns.length = arityN o
    · obtain ⟨W, rfl⟩ : ∃ W : Nat, n = W := ⟨n.toNat, by omega⟩
      have h1 : 1 ≤ W := by omega
      have h : W ≤ 64 := by omega
      rw [apE_ok h1 h hk hl, apV_ok h1 h hk hl]
      rcases arityN_ok hk with ⟨h4, ha⟩ | ⟨h4, h5, ha⟩ | ⟨h4, ha⟩
      · obtain ⟨x, rfl⟩ : ∃ x, ns = [x] := by
          rw [ha] at hl; match ns, hl with | [x], _ => exact ⟨x, rfl⟩
        have := rapply_1 h1 h o hk ha x (hn x (by simp)) ad c w hN
        simpa using this
      · obtain ⟨x, y, rfl⟩ : ∃ x y, ns = [x, y] := by
          rw [ha] at hl; match ns, hl with | [x, y], _ => exact ⟨x, y, rfl⟩
        have := rapply_2 h1 h o hk ha x (hn x (by simp)) y (hn y (by simp)) ad c w hN
        simpa using this
      · obtain ⟨x, y, z, rfl⟩ : ∃ x y z, ns = [x, y, z] := by
          rw [ha] at hl; match ns, hl with | [x, y, z], _ => exact ⟨x, y, z, rfl⟩
        exact rapply_3 h1 h o hk ha x (hn x (by simp)) y (hn y (by simp)) z (hn z (by simp)) ad c w hN
    · have hE : apE o n ns.length = 2 := by unfold apE; rw [if_neg hb, if_neg (by simpa using hk), if_pos hl]
      have hV : apV o n ns = 0 := by unfold apV; rw [hE]; rfl
      have hd3 : ((ns.length : Int) != (arityN o : Int)) = true := by simp; omega
      have hd2 : ((ns.length : Int) == (arityN o : Int)) = false := by simp; omega
      obtain ⟨r, hr⟩ : ∃ r, arityN o = r := ⟨_, rfl⟩
      have hl2 : ¬ ns.length = r := by rw [← hr]; exact hl
      rw [hE, hV]
      rw [hr] at KA hd3 hd2
      clear hE hV hb hn hm hN hk hr hl
      go_enter Tryd.func15, Tryd.ntmps15
      go_wp2_with (first | (go_at_call 21; refine KC.out.mono ?_; rintro e w' ⟨rfl, rfl⟩) | (go_at_call 31; refine KA.out.mono ?_; rintro e w' ⟨rfl, rfl⟩))
      go_ret2
      exact ⟨rfl, rfl⟩
  · have hE : apE o n ns.length = 3 := by unfold apE; rw [if_neg hb, if_pos hk]
    have hV : apV o n ns = 0 := by unfold apV; rw [hE]; rfl
    have KA := Lib.hid (rarity_two o ho w)
    rw [hE, hV]
    rcases (show (o < 2 ∧ arE o = 0) ∨ (¬ o < 2 ∧ arE o = 3) by unfold okOp at hk; unfold arE; by_cases h2 : o < 2; exact .inl ⟨h2, by rw [if_pos (by omega)]⟩; exact .inr ⟨h2, by rw [if_neg (by omega)]⟩) with ⟨h2, he⟩ | ⟨h2, he⟩
    · have hd : (o : Int) < 2 := by omega
      rw [he] at KA
      clear hE hV hb hn hm hN hk he h2
      go_enter Tryd.func15, Tryd.ntmps15
      go_wp2_with (first | (go_at_call 21; refine KC.out.mono ?_; rintro e w' ⟨rfl, rfl⟩) | (go_at_call 31; refine KA.out.mono ?_; rintro e w' ⟨rfl, rfl⟩))
      go_ret2
      exact ⟨rfl, rfl⟩
    · rw [he] at KA
      clear hE hV hb hn hm hN hk he h2
      go_enter Tryd.func15, Tryd.ntmps15
      go_wp2_with (first | (go_at_call 21; refine KC.out.mono ?_; rintro e w' ⟨rfl, rfl⟩) | (go_at_call 31; refine KA.out.mono ?_; rintro e w' ⟨rfl, rfl⟩))
      go_ret2
      exact ⟨rfl, rfl⟩
theorem wrap64_small (n : Nat) (h : n < 9223372036854775808) : wrap64 (n : Int) = n := by unfold wrap64; omega
theorem rtrim_any (n : Int) (v : Nat) (hv : v < 18446744073709551616) (w : World) :
    Calls Tryd.prog 17 #[.int .i64 n, .int .u64 (v : Int)] w fun e w' => e = .returned (.tuple #[.int .u64 (trV n v : Nat), .int .i64 (chk n)]) ∧ w = w' := by
  have KC := Lib.hid (rcheck_is n w)
  by_cases hb : n < 1 ∨ 64 < n
  · have hE : chk n = 3 := by unfold chk; rw [if_pos hb]
    have hV : trV n v = 0 := by unfold trV; rw [if_pos hb]
    rw [hE] at KC ⊢
    rw [hV]
    clear hE hV hb hv
    go_enter Tryd.func17, Tryd.ntmps17
    go_wp2_with (go_at_call 21; refine KC.out.mono ?_; rintro e w' ⟨rfl, rfl⟩)
    go_ret2
    exact ⟨rfl, rfl⟩
  · have hE : chk n = 0 := by unfold chk; rw [if_neg hb]
    have hV : trV n v = v % 2 ^ n.toNat := by unfold trV; rw [if_neg hb]
    obtain ⟨W, rfl⟩ : ∃ W : Nat, n = W := ⟨n.toNat, by omega⟩
    have KT := Lib.hid (rtrim_is (W := W) (by omega) (by omega) v hv w)
    rw [hE] at KC ⊢
    rw [hV]
    rw [Int.toNat_natCast]
    clear hE hV hb hv
    go_enter Tryd.func17, Tryd.ntmps17
    go_wp2_with (first | (go_at_call 21; refine KC.out.mono ?_; rintro e w' ⟨rfl, rfl⟩) | (go_at_call 32; refine KT.out.mono ?_; rintro e w' ⟨rfl, rfl⟩))
    go_ret2
    exact ⟨rfl, rfl⟩
theorem rsigned_any (n : Int) (v : Nat) (hv : v < 18446744073709551616) (w : World) :
    Calls Tryd.prog 19 #[.int .i64 n, .int .u64 (v : Int)] w fun e w' => e = .returned (.tuple #[.int .i64 (sgV n v), .int .i64 (chk n)]) ∧ w = w' := by
  have KC := Lib.hid (rcheck_is n w)
  by_cases hb : n < 1 ∨ 64 < n
  · have hE : chk n = 3 := by unfold chk; rw [if_pos hb]
    have hV : sgV n v = 0 := by unfold sgV; rw [if_pos hb]
    rw [hE] at KC ⊢
    rw [hV]
    clear hE hV hb hv
    go_enter Tryd.func19, Tryd.ntmps19
    go_wp2_with (go_at_call 21; refine KC.out.mono ?_; rintro e w' ⟨rfl, rfl⟩)
    go_ret2
    exact ⟨rfl, rfl⟩
  · have hE : chk n = 0 := by unfold chk; rw [if_neg hb]
    have hV : sgV n v = sgn n.toNat (v % 2 ^ n.toNat) := by unfold sgV; rw [if_neg hb]
    obtain ⟨W, rfl⟩ : ∃ W : Nat, n = W := ⟨n.toNat, by omega⟩
    have h1 : 1 ≤ W := by omega
    have h : W ≤ 64 := by omega
    rw [Int.toNat_natCast] at hV
    have KT := Lib.hid (rtrim_is h1 h v hv w)
    have KP := Lib.hid (rtop_is h1 h (v % 2 ^ W) (Nat.mod_lt _ (two_pos W)) w)
    have hr9 : v % 2 ^ W < 2 ^ W := Nat.mod_lt _ (two_pos W)
    rw [hE] at KC ⊢
    rw [hV]
    have h64 := two_le64 h
    have hh := two_half h1
    obtain ⟨r, hr⟩ : ∃ r, v % 2 ^ W = r := ⟨_, rfl⟩
    rw [hr] at KT KP hr9 ⊢
    have hw2 : IntKind.u64.wrap (W : Int) = (W : Int) := u64_of h
    by_cases hs : 2 ^ (W - 1) ≤ r
    · rw [decide_eq_true hs] at KP
      have hg : sgn W r = (r : Int) - ((2 ^ W : Nat) : Int) := by unfold sgn; rw [if_neg (by omega)]
      by_cases hW : W < 64
      · have hWi : (W : Int) < 64 := by omega
        have hM : 2 ^ W ≤ 9223372036854775808 := by
          have : 2 ^ W ≤ 2 ^ 63 := Nat.pow_le_pow_right (by decide) (by omega)
          simpa using this
        have hf : wrap64 (wrap64 (r : Int) - wrap64 (2 ^ W)) = sgn W r := by
          rw [hg, show ((2 : Int) ^ W) = ((2 ^ W : Nat) : Int) by rw [Int.natCast_pow]; rfl]
          have hs' := hs
          rw [hh] at hr9 hM
          rw [hh]
          generalize 2 ^ (W - 1) = N at hs' hr9 hM ⊢
          clear hE hV hb hv hr hs hh h64 hg h1 h hw2 KC KT KP hWi
          have e1 : wrap64 (r : Int) = r := wrap64_small r (by omega)
          rw [e1]
          by_cases hN : N = 4611686018427387904
          · subst hN; unfold wrap64; omega
          · rw [wrap64_small (2 * N) (by omega)]; unfold wrap64; omega
        have HF := Lib.hid hf
        clear hE hV hb hv hr hs hh h64 hr9 hg hM hf h1 h
        go_enter Tryd.func19, Tryd.ntmps19
        go_wp2_with (first | (go_at_call 21; refine KC.out.mono ?_; rintro e w' ⟨rfl, rfl⟩) | (go_at_call 32; refine KT.out.mono ?_; rintro e w' ⟨rfl, rfl⟩) | (go_at_call 35; refine KP.out.mono ?_; rintro e w' ⟨rfl, rfl⟩))
        go_ret2
        exact ⟨by rw [← HF.out]; try rfl, rfl⟩
      · have hWi : ¬ (W : Int) < 64 := by omega
        have hf : wrap64 (r : Int) = sgn W r := by
          have e : 2 ^ W = 18446744073709551616 := by rw [show W = 64 by omega]
          rw [hg]
          rw [e] at hh hr9 ⊢
          generalize 2 ^ (W - 1) = N at *
          unfold wrap64
          omega
        have HF := Lib.hid hf
        clear hE hV hb hv hr hs hh h64 hr9 hg hf h1 h
        go_enter Tryd.func19, Tryd.ntmps19
        go_wp2_with (first | (go_at_call 21; refine KC.out.mono ?_; rintro e w' ⟨rfl, rfl⟩) | (go_at_call 32; refine KT.out.mono ?_; rintro e w' ⟨rfl, rfl⟩) | (go_at_call 35; refine KP.out.mono ?_; rintro e w' ⟨rfl, rfl⟩))
        go_ret2
        exact ⟨by rw [← HF.out]; try rfl, rfl⟩
    · rw [decide_eq_false hs] at KP
      have hf : wrap64 (r : Int) = sgn W r := by
        unfold sgn; rw [if_pos (by omega)]; unfold wrap64; omega
      have HF := Lib.hid hf
      clear hE hV hb hv hr hs hh h64 hr9 hf h1 h
      go_enter Tryd.func19, Tryd.ntmps19
      go_wp2_with (first | (go_at_call 21; refine KC.out.mono ?_; rintro e w' ⟨rfl, rfl⟩) | (go_at_call 32; refine KT.out.mono ?_; rintro e w' ⟨rfl, rfl⟩) | (go_at_call 35; refine KP.out.mono ?_; rintro e w' ⟨rfl, rfl⟩))
      go_ret2
      exact ⟨by rw [← HF.out]; try rfl, rfl⟩
end Go.Proofs.YtldcekejbnhloaaDoor.Words
