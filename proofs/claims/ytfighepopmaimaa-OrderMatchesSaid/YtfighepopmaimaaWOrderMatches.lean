/-
  OrderMatches' walk.
-/
import Derived.Test.YtfighepopmaimaaOrdT
namespace Go.Proofs.Ytfighepopmaimaa
open Go.RowKit Go.Lib
open Go.RowKit (Below)

set_option maxRecDepth 100000 in
set_option maxHeartbeats 16000000 in
theorem orderMatches_walk (w : World) (n : Int) (hnw : (Lit.int .i64 n).wf = true) (a : Option Addr) (c : Nat) (ts : List (Int × Int × Int)) (hR : CallsR w a ts) (hwf : CallsWf ts) (hm : ts.length ≤ maxLen) :
    Calls Try.prog 3 #[.int .i64 n, .slice a ts.length c] w fun e w' => e = .returned (.bool true) ∧ Below w.heap.size w w' := by
  unfold maxLen at hm
  have hK := Lib.hid (known_any w)
  have KK : Hid (∀ ps W', St w ps W' → Calls Try.prog 11 #[] W' fun r w' => r = .returned (.bool true) ∧ St w ps w') := fun ps W' h => by
    refine (known_any W').mono ?_
    rintro r w' ⟨hr, hb⟩
    exact ⟨hr, h.below hb⟩
  by_cases hl : 200 < ts.length
  · clear hR hwf hnw
    go_enter Try.func3, Try.ntmps3
    go_wp2_with (go_at_call 11; refine hK.out.mono ?_; rintro e w' ⟨rfl, hB⟩)
    go_ret
    exact ⟨rfl, hB⟩
  have hll : ¬ (200 : Int) < (ts.length : Int) := by omega
  by_cases hb1 : 300 < n ∧ n ≤ 1048576
  · obtain ⟨h1, h2⟩ := hb1
    clear hR hwf hnw hl
    go_enter Try.func3, Try.ntmps3
    go_wp2_with (go_at_call 11; refine hK.out.mono ?_; rintro e w' ⟨rfl, hB⟩)
    go_ret
    exact ⟨rfl, hB⟩
  by_cases hb2 : n < 0 ∨ 1048576 < n
  · have KN1 := Lib.hid (new_bad w hb2)
    have KN2 := Lib.hid (refNew_bad w hb2)
    have hg : ¬ (300 : Int) < n ∨ (300 : Int) < n ∧ ¬ n ≤ 1048576 := by omega
    clear hb1 hb2 hR hwf hnw hl
    rcases hg with hg | ⟨hg, hg2⟩
    all_goals
      go_enter Try.func3, Try.ntmps3
      go_wp2_with (first | (go_at_call 12; refine KN1.out.mono ?_; rintro e w' ⟨rfl, rfl⟩) | (go_at_call 13; refine KN2.out.mono ?_; rintro e w' ⟨rfl, rfl⟩))
      go_loopw [9] (fun t wr => t = .int .i64 0 ∧ wr = w) (fun _ _ => 0)
      case atStart => exact ⟨rfl, rfl⟩
      case round =>
        obtain ⟨rfl, rfl⟩ := hrel
        go_wp2_with (go_at_call 11; refine hK.out.mono ?_; rintro e w' ⟨rfl, hB⟩)
        go_ret
        exact ⟨rfl, hB⟩
  · obtain ⟨N, rfl⟩ : ∃ N : Nat, n = (N : Int) := ⟨n.toNat, by omega⟩
    have H0 : Hid (St w [] w) := St.nil w
    have KN1 : Hid (Calls Try.prog 12 #[.int .i64 N] w fun r w' => ∃ p, r = .returned (.tuple #[.pointer (some ⟨p, 0, none⟩), .int .i64 0]) ∧ St w [HP p (Hs.new N)] w') := H0.out.new (by omega)
    have KN2 : Hid (∀ P W', St w [P] W' → Calls Try.prog 13 #[.int .i64 N] W' fun r w' => ∃ p, r = .returned (.tuple #[.pointer (some ⟨p, 0, none⟩), .int .i64 0]) ∧ St w [P, RF p (Hs.new N)] w') := fun P W' h => h.refNew (by omega)
    have hg : ¬ (300 : Int) < (N : Int) := by omega
    have HR := Lib.hid hR
    have HWF := Lib.hid hwf
    clear hb1 hb2 hR hwf hnw hl
    go_enter Try.func3, Try.ntmps3
    go_wp2_with (first | (go_at_call 12; refine KN1.out.mono ?_; rintro r w1 ⟨p, rfl, h⟩; have HC := Lib.hid h; clear h) | (go_at_call 13; ((with_reducible refine (KN2.out _ _ HC.out).mono ?_); rintro r w2 ⟨q, rfl, h⟩; clear HC; have HC := Lib.hid h; clear h)))
    go_loopw [9] (fun t wr => ∃ (i : Nat) (A : Hs), t = .int .i64 i ∧ i ≤ ts.length ∧ Hid (Both w p q A A wr)) (fun t _ => ts.length - (intOf t).toNat)
    case atStart => exact ⟨0, Hs.new N, rfl, Nat.zero_le _, HC⟩
    case round =>
      obtain ⟨i, A, rfl, hi, HB⟩ := hrel
      clear HC H0 KN1 KN2
      by_cases hlt : i < ts.length
      · obtain ⟨b, off, x, v, y, ha, ⟨hx0, hx1⟩, hcells⟩ := HR.out.at HWF.out hlt
        obtain ⟨c0, c1, c2⟩ := hcells wr HB.out.bel
        have HCL := Lib.hid hcells
        subst ha
        have hi1 : (i : Int) < (ts.length : Int) := by omega
        have hi0 : (0 : Int) ≤ (i : Int) := by omega
        have HM : Hid (ts.length - (i + 1) < ts.length - i) := Lib.hid (by omega)
        obtain ⟨d, hd⟩ : ∃ d : Int, x % 5 = d := ⟨_, rfl⟩
        have hd5 : d = 0 ∨ d = 1 ∨ d = 2 ∨ d = 3 ∨ d = 4 := by omega
        have HD5 := Lib.hid hd5
        clear hcells hd5
        have HDR : Hid (Both w p q A A wr.drew) := HB.out.quiet ⟨1, rfl⟩
        have HDB : Hid (Below w.heap.size w wr.drew) := HDR.out.bel
        rcases HD5.out with rfl | rfl | rfl | rfl | rfl
        · obtain ⟨e, he⟩ : ∃ e, A.bumpE v y = e := ⟨_, rfl⟩
          obtain ⟨A1, hA1⟩ : ∃ A1, A.bumpA v y = A1 := ⟨_, rfl⟩
          have K1 : Hid (∀ W, Hid (Both w p q A A W) → Calls Try.prog 14 #[.pointer (some ⟨p, 0, none⟩), .int .i64 v, .int .i64 y] W fun r w' => r = .returned (.int .i64 e) ∧ Hid (Both w p q A1 A w') ∧ Hid (Below w.heap.size w w')) := fun W h => by
            refine (Both.bump1 h.out v y).mono ?_
            rintro r w' ⟨hr, h9⟩
            rw [he] at hr
            rw [hA1] at h9
            exact ⟨hr, h9, h9.bel⟩
          have K2 : Hid (∀ W, Hid (Both w p q A1 A W) → Calls Try.prog 15 #[.pointer (some ⟨q, 0, none⟩), .int .i64 v, .int .i64 y] W fun r w' => r = .returned (.int .i64 e) ∧ Hid (Both w p q A1 A1 w') ∧ Hid (Below w.heap.size w w')) := fun W h => by
            refine (Both.bump2 h.out v y).mono ?_
            rintro r w' ⟨hr, h9⟩
            rw [he] at hr
            rw [hA1] at h9
            exact ⟨hr, h9, h9.bel⟩
          have HH : Hid (∀ W, Hid (Below w.heap.size w W) → W.cell? ⟨b, off + i * 3 + 1, none⟩ = some (.int .i64 v) ∧ W.cell? ⟨b, off + i * 3 + 2, none⟩ = some (.int .i64 y) ∧ Hid (Below w.heap.size w W)) := fun W hW => ⟨(HCL.out W hW).2.1, (HCL.out W hW).2.2, hW⟩
          clear he hA1
          go_wp2
          go_region_held3 (fun W => W.cell? ⟨b, off + i * 3 + 1, none⟩ = some (.int .i64 v) ∧ W.cell? ⟨b, off + i * 3 + 2, none⟩ = some (.int .i64 y) ∧ Hid (Below w.heap.size w W)) (first | exact HH.out _ HDB | exact HH.out _ (by assumption))
            (first | (go_at_call 14; ((with_reducible refine (K1.out _ ?_).mono ?_); (· assumption); rintro r w4 ⟨rfl, HB4, HL4⟩)) | (go_at_call 15; ((with_reducible refine (K2.out _ ?_).mono ?_); (· assumption); rintro r w5 ⟨rfl, HB5, HL5⟩)))
          go_wp2
          go_roundw
          case rel => exact ⟨i + 1, A1, by go_num, by omega, HB5⟩
          case measure => have := HM.out; simp [intOf]; omega
        · obtain ⟨e1, he1⟩ : ∃ e, A.popV = e := ⟨_, rfl⟩
          obtain ⟨e2, he2⟩ : ∃ e, A.popE = e := ⟨_, rfl⟩
          have K1 : Hid (∀ W, Both w p q A A W → Calls Try.prog 16 #[.pointer (some ⟨p, 0, none⟩)] W fun r w' => r = .returned (.tuple #[.int .i64 e1, .int .i64 e2]) ∧ Both w p q A.popA A w') := fun W h => by
            have h9 := Both.pop1 h
            rw [he1, he2] at h9; exact h9
          have K2 : Hid (∀ W, Both w p q A.popA A W → Calls Try.prog 17 #[.pointer (some ⟨q, 0, none⟩)] W fun r w' => r = .returned (.tuple #[.int .i64 e1, .int .i64 e2]) ∧ Both w p q A.popA A.popA w') := fun W h => by
            have h9 := Both.pop2 h
            rw [he1, he2] at h9; exact h9
          clear he1 he2
          go_wp2_with (first | (go_at_call 16; ((with_reducible refine (K1.out _ HB.out).mono ?_); rintro r w4 ⟨rfl, h⟩; have HC := Lib.hid h; clear h)) | (go_at_call 17; ((with_reducible refine (K2.out _ HC.out).mono ?_); rintro r w5 ⟨rfl, h⟩; clear HC; have HC := Lib.hid h; clear h)))
          go_roundw
          case rel => exact ⟨i + 1, A.popA, by go_num, by omega, HC⟩
          case measure => have := HM.out; simp [intOf]; omega
        · obtain ⟨e, he⟩ : ∃ e, A.pushE v = e := ⟨_, rfl⟩
          obtain ⟨A1, hA1⟩ : ∃ A1, A.pushA v = A1 := ⟨_, rfl⟩
          have K1 : Hid (∀ W, Hid (Both w p q A A W) → Calls Try.prog 18 #[.pointer (some ⟨p, 0, none⟩), .int .i64 v] W fun r w' => r = .returned (.int .i64 e) ∧ Hid (Both w p q A1 A w') ∧ Hid (Below w.heap.size w w')) := fun W h => by
            refine (Both.push1 h.out v).mono ?_
            rintro r w' ⟨hr, h9⟩
            rw [he] at hr
            rw [hA1] at h9
            exact ⟨hr, h9, h9.bel⟩
          have K2 : Hid (∀ W, Hid (Both w p q A1 A W) → Calls Try.prog 19 #[.pointer (some ⟨q, 0, none⟩), .int .i64 v] W fun r w' => r = .returned (.int .i64 e) ∧ Hid (Both w p q A1 A1 w') ∧ Hid (Below w.heap.size w w')) := fun W h => by
            refine (Both.push2 h.out v).mono ?_
            rintro r w' ⟨hr, h9⟩
            rw [he] at hr
            rw [hA1] at h9
            exact ⟨hr, h9, h9.bel⟩
          have HH : Hid (∀ W, Hid (Below w.heap.size w W) → W.cell? ⟨b, off + i * 3 + 1, none⟩ = some (.int .i64 v) ∧ Hid (Below w.heap.size w W)) := fun W hW => ⟨(HCL.out W hW).2.1, hW⟩
          clear he hA1
          go_wp2
          go_region_held3 (fun W => W.cell? ⟨b, off + i * 3 + 1, none⟩ = some (.int .i64 v) ∧ Hid (Below w.heap.size w W)) (first | exact HH.out _ HDB | exact HH.out _ (by assumption))
            (first | (go_at_call 18; ((with_reducible refine (K1.out _ ?_).mono ?_); (· assumption); rintro r w4 ⟨rfl, HB4, HL4⟩)) | (go_at_call 19; ((with_reducible refine (K2.out _ ?_).mono ?_); (· assumption); rintro r w5 ⟨rfl, HB5, HL5⟩)))
          go_wp2
          go_roundw
          case rel => exact ⟨i + 1, A1, by go_num, by omega, HB5⟩
          case measure => have := HM.out; simp [intOf]; omega
        · obtain ⟨z, hz⟩ : ∃ z, A.hasB v = z := ⟨_, rfl⟩
          obtain ⟨l, hl⟩ : ∃ l, A.lenN = l := ⟨_, rfl⟩
          have HQ : Hid (∀ W, QuietTo wr W → Both w p q A A W) := fun W h => HB.out.quiet h
          have K1 : Hid (∀ W, QuietTo wr W → Calls Try.prog 20 #[.pointer (some ⟨p, 0, none⟩), .int .i64 v] W fun r w' => r = .returned (.bool z) ∧ w' = W) := fun W h => by
            have h9 := Both.has1 (HQ.out W h) v
            rw [hz] at h9; exact h9
          have K2 : Hid (∀ W, QuietTo wr W → Calls Try.prog 21 #[.pointer (some ⟨q, 0, none⟩), .int .i64 v] W fun r w' => r = .returned (.bool z) ∧ w' = W) := fun W h => by
            have h9 := Both.has2 (HQ.out W h) v
            rw [hz] at h9; exact h9
          have K3 : Hid (∀ W, QuietTo wr W → Calls Try.prog 22 #[.pointer (some ⟨p, 0, none⟩)] W fun r w' => r = .returned (.int .i64 l) ∧ w' = W) := fun W h => by
            have h9 := Both.len1 (HQ.out W h)
            rw [hl] at h9; exact h9
          have K4 : Hid (∀ W, QuietTo wr W → Calls Try.prog 23 #[.pointer (some ⟨q, 0, none⟩)] W fun r w' => r = .returned (.int .i64 l) ∧ w' = W) := fun W h => by
            have h9 := Both.len2 (HQ.out W h)
            rw [hl] at h9; exact h9
          have t1 : (z != z) = false := by simp
          have t2 : (l != l) = false := by simp
          clear hz hl
          go_wp2
          go_quiet (first | (go_at_call 20; first | exact Calls.quiet_of_same (K1.out _ ⟨0, rfl⟩) | exact Calls.quiet_of_same (K1.out _ ⟨_, rfl⟩)) | (go_at_call 21; first | exact Calls.quiet_of_same (K2.out _ ⟨0, rfl⟩) | exact Calls.quiet_of_same (K2.out _ ⟨_, rfl⟩)) | (go_at_call 22; first | exact Calls.quiet_of_same (K3.out _ ⟨0, rfl⟩) | exact Calls.quiet_of_same (K3.out _ ⟨_, rfl⟩)) | (go_at_call 23; first | exact Calls.quiet_of_same (K4.out _ ⟨0, rfl⟩) | exact Calls.quiet_of_same (K4.out _ ⟨_, rfl⟩)))
          have HB5 := Lib.hid (HQ.out _ ⟨nq, rfl⟩)
          go_wp2
          go_roundw
          case rel => exact ⟨i + 1, A, by go_num, by omega, HB5⟩
          case measure => have := HM.out; simp [intOf]; omega
        · obtain ⟨e1, he1⟩ : ∃ e, A.popV = e := ⟨_, rfl⟩
          obtain ⟨e2, he2⟩ : ∃ e, A.popE = e := ⟨_, rfl⟩
          have K1 : Hid (∀ W, Both w p q A A W → Calls Try.prog 24 #[.pointer (some ⟨p, 0, none⟩)] W fun r w' => ∃ g, r = .returned (.pointer (some ⟨g, 0, none⟩)) ∧ St w [HP p A, RF q A, HP g A] w') := fun W h => St.copy h (i := 0) rfl
          have K2 : Hid (∀ g W, St w [HP p A, RF q A, HP g A] W → Calls Try.prog 16 #[.pointer (some ⟨g, 0, none⟩)] W fun r w' => r = .returned (.tuple #[.int .i64 e1, .int .i64 e2]) ∧ St w [HP p A, RF q A, HP g A.popA] w') := fun g W h => by
            have h9 := St.pop h (i := 2) rfl
            rw [he1, he2] at h9; exact h9
          have K3 : Hid (∀ R W, St w [HP p A, RF q A, R] W → Calls Try.prog 25 #[.pointer (some ⟨q, 0, none⟩)] W fun r w' => ∃ g, r = .returned (.pointer (some ⟨g, 0, none⟩)) ∧ St w [HP p A, RF q A, R, RC g A] w') := fun R W h => St.refCopy h (i := 1) rfl
          have K4 : Hid (∀ R g W, St w [HP p A, RF q A, R, RC g A] W → Calls Try.prog 17 #[.pointer (some ⟨g, 0, none⟩)] W fun r w' => r = .returned (.tuple #[.int .i64 e1, .int .i64 e2]) ∧ Both w p q A A w') := fun R g W h => by
            have h9 := St.refPopC h (i := 3) rfl
            rw [he1, he2] at h9
            refine h9.mono ?_
            rintro r w' ⟨hr, h8⟩
            refine ⟨hr, h8.perm id (fun i P' hi => ?_) (fun i j _ _ h => h)⟩
            match i, hi with
            | 0, hi => exact hi
            | 1, hi => exact hi
          clear he1 he2
          go_wp2_with (first | (go_at_call 24; ((with_reducible refine (K1.out _ HB.out).mono ?_); rintro r w4 ⟨g1, rfl, h⟩; have HC := Lib.hid h; clear h)) | (go_at_call 16; ((with_reducible refine (K2.out _ _ HC.out).mono ?_); rintro r w5 ⟨rfl, h⟩; clear HC; have HC := Lib.hid h; clear h)) | (go_at_call 25; ((with_reducible refine (K3.out _ _ HC.out).mono ?_); rintro r w6 ⟨g2, rfl, h⟩; clear HC; have HC := Lib.hid h; clear h)) | (go_at_call 17; ((with_reducible refine (K4.out _ _ _ HC.out).mono ?_); rintro r w7 ⟨rfl, h⟩; clear HC; have HC := Lib.hid h; clear h)))
          go_roundw
          case rel => exact ⟨i + 1, A, by go_num, by omega, HC⟩
          case measure => have := HM.out; simp [intOf]; omega
      · obtain rfl : i = ts.length := by omega
        clear hlt
        go_wp2_with (first | (go_at_call 11; ((with_reducible refine (KK.out _ _ HB.out).mono ?_); rintro r w10 ⟨rfl, h⟩; have HC := Lib.hid h; clear h)))
        go_ret
        exact ⟨rfl, HC.out.bel⟩
end Go.Proofs.Ytfighepopmaimaa
