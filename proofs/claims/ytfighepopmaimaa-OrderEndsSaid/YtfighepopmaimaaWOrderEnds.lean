/-
  OrderEnds' walk.
-/
import Derived.Test.YtfighepopmaimaaOrdT
import Derived.Deep.LoopGhost
namespace Go.Proofs.Ytfighepopmaimaa
open Go.RowKit Go.Lib
open Go.RowKit (Below)

set_option maxRecDepth 100000 in
set_option maxHeartbeats 16000000 in
theorem orderEnds_walk (w : World) (n : Int) (hnw : (Lit.int .u8 n).wf = true) (a : Option Addr) (c : Nat) (ts : List (Int × Int × Int)) (hR : CallsR w a ts) (hwf : CallsWf ts) (hm : ts.length ≤ maxLen) :
    Calls Try.prog 4 #[.int .u8 n, .slice a ts.length c] w fun e w' => e = .returned (.bool true) ∧ Below w.heap.size w w' := by
  unfold maxLen at hm
  by_cases hl : 100 < ts.length
  · have hK := Lib.hid (known_any w)
    clear hR hwf hnw
    go_enter Try.func4, Try.ntmps4
    go_wp2_with (go_at_call 11; refine hK.out.mono ?_; rintro e w' ⟨rfl, hB⟩)
    go_ret
    exact ⟨rfl, hB⟩
  have hll : ¬ (100 : Int) < (ts.length : Int) := by omega
  have KK : Hid (∀ ps W', St w ps W' → Calls Try.prog 11 #[] W' fun r w' => r = .returned (.bool true) ∧ St w ps w') := fun ps W' h => by
    refine (known_any W').mono ?_
    rintro r w' ⟨hr, hb⟩
    exact ⟨hr, h.below hb⟩
  simp [Lit.wf, IntKind.min, IntKind.max, IntKind.bits, IntKind.signed] at hnw
  obtain ⟨n0, n1⟩ := hnw
  obtain ⟨N, hN⟩ : ∃ N : Nat, 1 + n % 60 = (N : Int) := ⟨(1 + n % 60).toNat, by omega⟩
  have H0 : Hid (St w [] w) := St.nil w
  have KN1 : Hid (Calls Try.prog 12 #[.int .i64 N] w fun r w' => ∃ p, r = .returned (.tuple #[.pointer (some ⟨p, 0, none⟩), .int .i64 0]) ∧ St w [HP p (Hs.new N)] w') := H0.out.new (by omega)
  have KN2 : Hid (∀ P W', St w [P] W' → Calls Try.prog 13 #[.int .i64 N] W' fun r w' => ∃ p, r = .returned (.tuple #[.pointer (some ⟨p, 0, none⟩), .int .i64 0]) ∧ St w [P, RF p (Hs.new N)] w') := fun P W' h => h.refNew (by omega)
  have HR := Lib.hid hR
  have HWF := Lib.hid hwf
  clear hR hwf hl
  go_enter Try.func4, Try.ntmps4
  go_wp2_with (first | (go_at_call 12; rw [hN]; refine KN1.out.mono ?_; rintro r w1 ⟨p, rfl, h⟩; have HC := Lib.hid h; clear h) | (go_at_call 12; refine KN1.out.mono ?_; rintro r w1 ⟨p, rfl, h⟩; have HC := Lib.hid h; clear h) | (go_at_call 13; rw [hN]; ((with_reducible refine (KN2.out _ _ HC.out).mono ?_); rintro r w2 ⟨q, rfl, h⟩; clear HC; have HC := Lib.hid h; clear h)) | (go_at_call 13; ((with_reducible refine (KN2.out _ _ HC.out).mono ?_); rintro r w2 ⟨q, rfl, h⟩; clear HC; have HC := Lib.hid h; clear h)))
  try rw [hN]
  clear hN
  go_loopw [9] (fun t wr => ∃ (i : Nat) (A : Hs), t = .int .i64 i ∧ i ≤ ts.length ∧ Hid (Both w p q A A wr)) (fun t _ => ts.length - (intOf t).toNat)
  case atStart => exact ⟨0, Hs.new N, rfl, Nat.zero_le _, HC⟩
  case round =>
    obtain ⟨i, A, rfl, hi, HB⟩ := hrel
    clear HC H0 KN1 KN2
    by_cases hlt : i < ts.length
    · obtain ⟨b, off, x, v, y, ha, ⟨hx0, hx1⟩, hcells⟩ := HR.out.at HWF.out hlt
      obtain ⟨c0, c1, c2⟩ := hcells wr HB.out.bel
      have HCL := Lib.hid hcells
      subst ha
      have hi1 : (i : Int) < (ts.length : Int) := by omega
      have hi0 : (0 : Int) ≤ (i : Int) := by omega
      have HM : Hid (ts.length - (i + 1) < ts.length - i) := Lib.hid (by omega)
      clear hcells
      have HDR : Hid (Both w p q A A wr.drew) := HB.out.quiet ⟨1, rfl⟩
      have HDB : Hid (Below w.heap.size w wr.drew) := HDR.out.bel
      obtain ⟨e, he⟩ : ∃ e, A.bumpE v y = e := ⟨_, rfl⟩
      obtain ⟨A1, hA1⟩ : ∃ A1, A.bumpA v y = A1 := ⟨_, rfl⟩
      have K1 : Hid (∀ W, Hid (Both w p q A A W) → Calls Try.prog 14 #[.pointer (some ⟨p, 0, none⟩), .int .i64 v, .int .i64 y] W fun r w' => r = .returned (.int .i64 e) ∧ Hid (Both w p q A1 A w') ∧ Hid (Below w.heap.size w w')) := fun W h => by
        refine (Both.bump1 h.out v y).mono ?_
        rintro r w' ⟨hr, h9⟩
        rw [he] at hr
        rw [hA1] at h9
        exact ⟨hr, h9, h9.bel⟩
      have K2 : Hid (∀ W, Hid (Both w p q A1 A W) → Calls Try.prog 15 #[.pointer (some ⟨q, 0, none⟩), .int .i64 v, .int .i64 y] W fun r w' => r = .returned (.int .i64 e) ∧ Hid (Both w p q A1 A1 w') ∧ Hid (Below w.heap.size w w')) := fun W h => by
        refine (Both.bump2 h.out v y).mono ?_
        rintro r w' ⟨hr, h9⟩
        rw [he] at hr
        rw [hA1] at h9
        exact ⟨hr, h9, h9.bel⟩
      have HH : Hid (∀ W, Hid (Below w.heap.size w W) → W.cell? ⟨b, off + i * 3 + 1, none⟩ = some (.int .i64 v) ∧ W.cell? ⟨b, off + i * 3 + 2, none⟩ = some (.int .i64 y) ∧ Hid (Below w.heap.size w W)) := fun W hW => ⟨(HCL.out W hW).2.1, (HCL.out W hW).2.2, hW⟩
      clear he hA1
      go_wp2
      go_region_held3 (fun W => W.cell? ⟨b, off + i * 3 + 1, none⟩ = some (.int .i64 v) ∧ W.cell? ⟨b, off + i * 3 + 2, none⟩ = some (.int .i64 y) ∧ Hid (Below w.heap.size w W)) (first | exact HH.out _ HDB | exact HH.out _ (by assumption))
        (first | (go_at_call 14; ((with_reducible refine (K1.out _ ?_).mono ?_); (· assumption); rintro r w4 ⟨rfl, HB4, HL4⟩)) | (go_at_call 15; ((with_reducible refine (K2.out _ ?_).mono ?_); (· assumption); rintro r w5 ⟨rfl, HB5, HL5⟩)))
      go_wp2
      go_roundw
      case rel => exact ⟨i + 1, A1, by go_num, by omega, HB5⟩
      case measure => have := HM.out; simp [intOf]; omega
    · obtain rfl : i = ts.length := by omega
      clear hlt
      go_wp2
      go_loopg [] (A.cnt A.n) (fun g wi => ∃ B : Hs, Hid (B.cnt B.n = g) ∧ Hid (Both w p q B B wi))
      case atStart => exact ⟨A, Lib.hid rfl, HB⟩
      case round =>
        obtain ⟨B, HG, HB2⟩ := hrel
        clear HB
        cases hb : B.best with
        | none =>
          have hV : B.popV = 0 := by unfold Hs.popV; rw [hb]
          have hE : B.popE = 6 := by unfold Hs.popE; rw [hb]
          obtain ⟨l, hl⟩ : ∃ l, B.popA.lenN = l := ⟨_, rfl⟩
          have K1 : Hid (∀ W, Both w p q B B W → Calls Try.prog 16 #[.pointer (some ⟨p, 0, none⟩)] W fun r w' => r = .returned (.tuple #[.int .i64 0, .int .i64 6]) ∧ Both w p q B.popA B w') := fun W h => by
            have h9 := Both.pop1 h
            rw [hV, hE] at h9; exact h9
          have K2 : Hid (∀ W, Both w p q B.popA B W → Calls Try.prog 17 #[.pointer (some ⟨q, 0, none⟩)] W fun r w' => r = .returned (.tuple #[.int .i64 0, .int .i64 6]) ∧ Both w p q B.popA B.popA w') := fun W h => by
            have h9 := Both.pop2 h
            rw [hV, hE] at h9; exact h9
          have K3 : Hid (∀ W, Both w p q B.popA B.popA W → Calls Try.prog 22 #[.pointer (some ⟨p, 0, none⟩)] W fun r w' => r = .returned (.int .i64 l) ∧ w' = W) := fun W h => by
            have h9 := Both.len1 h
            rw [hl] at h9; exact h9
          have K4 : Hid (∀ W, Both w p q B.popA B.popA W → Calls Try.prog 23 #[.pointer (some ⟨q, 0, none⟩)] W fun r w' => r = .returned (.int .i64 l) ∧ w' = W) := fun W h => by
            have h9 := Both.len2 h
            rw [hl] at h9; exact h9
          clear hV hE hl hb
          go_wp2_with (first | (go_at_call 16; ((with_reducible refine (K1.out _ HB2.out).mono ?_); rintro r w4 ⟨rfl, h⟩; have HC := Lib.hid h; clear h)) | (go_at_call 17; ((with_reducible refine (K2.out _ HC.out).mono ?_); rintro r w5 ⟨rfl, h⟩; clear HC; have HC := Lib.hid h; clear h)) | (go_at_call 22; ((with_reducible refine (K3.out _ HC.out).mono ?_); rintro r w6 ⟨rfl, rfl⟩)) | (go_at_call 23; ((with_reducible refine (K4.out _ HC.out).mono ?_); rintro r w7 ⟨rfl, rfl⟩)) | (go_at_call 11; ((with_reducible refine (KK.out _ _ HC.out).mono ?_); rintro r w8 ⟨rfl, h⟩; clear HC; have HC := Lib.hid h; clear h)))
          go_ret
          exact ⟨rfl, HC.out.bel⟩
        | some e =>
          have hV : B.popV = (e : Int) + 1 := by unfold Hs.popV; rw [hb]
          have hE : B.popE = 0 := by unfold Hs.popE; rw [hb]
          have HCN : Hid (B.popA.cnt B.popA.n + 1 = B.cnt B.n) := Lib.hid (by rw [Hs.popA_n]; exact Hs.cnt_pop hb)
          obtain ⟨l, hl⟩ : ∃ l, B.popA.lenN = l := ⟨_, rfl⟩
          have K1 : Hid (∀ W, Both w p q B B W → Calls Try.prog 16 #[.pointer (some ⟨p, 0, none⟩)] W fun r w' => r = .returned (.tuple #[.int .i64 ((e : Int) + 1), .int .i64 0]) ∧ Both w p q B.popA B w') := fun W h => by
            have h9 := Both.pop1 h
            rw [hV, hE] at h9; exact h9
          have K2 : Hid (∀ W, Both w p q B.popA B W → Calls Try.prog 17 #[.pointer (some ⟨q, 0, none⟩)] W fun r w' => r = .returned (.tuple #[.int .i64 ((e : Int) + 1), .int .i64 0]) ∧ Both w p q B.popA B.popA w') := fun W h => by
            have h9 := Both.pop2 h
            rw [hV, hE] at h9; exact h9
          have K3 : Hid (∀ W, Both w p q B.popA B.popA W → Calls Try.prog 22 #[.pointer (some ⟨p, 0, none⟩)] W fun r w' => r = .returned (.int .i64 l) ∧ w' = W) := fun W h => by
            have h9 := Both.len1 h
            rw [hl] at h9; exact h9
          have K4 : Hid (∀ W, Both w p q B.popA B.popA W → Calls Try.prog 23 #[.pointer (some ⟨q, 0, none⟩)] W fun r w' => r = .returned (.int .i64 l) ∧ w' = W) := fun W h => by
            have h9 := Both.len2 h
            rw [hl] at h9; exact h9
          clear hV hE hl hb
          go_wp2_with (first | (go_at_call 16; ((with_reducible refine (K1.out _ HB2.out).mono ?_); rintro r w4 ⟨rfl, h⟩; have HC := Lib.hid h; clear h)) | (go_at_call 17; ((with_reducible refine (K2.out _ HC.out).mono ?_); rintro r w5 ⟨rfl, h⟩; clear HC; have HC := Lib.hid h; clear h)) | (go_at_call 22; ((with_reducible refine (K3.out _ HC.out).mono ?_); rintro r w6 ⟨rfl, rfl⟩)) | (go_at_call 23; ((with_reducible refine (K4.out _ HC.out).mono ?_); rintro r w7 ⟨rfl, rfl⟩)))
          go_roundg (B.popA.cnt B.popA.n)
          case measure => have h1 := HCN.out; have h2 := HG.out; omega
          case rel => exact ⟨B.popA, Lib.hid rfl, HC⟩
end Go.Proofs.Ytfighepopmaimaa
