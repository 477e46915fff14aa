/-
  OrderCopies' walk.
-/
import Derived.Test.YtfighepopmaimaaOrdL
namespace Go.Proofs.Ytfighepopmaimaa
open Go.RowKit Go.Lib
open Go.RowKit (Below)

set_option maxHeartbeats 8000000 in
theorem orderCopies_walk (w : World) (a : Option Addr) (c : Nat) (zs : List Int) (hR : U16R w a zs) (hwf : ∀ x ∈ zs, (Lit.int .u16 x).wf = true) (hm : zs.length ≤ maxLen) (v : Int) (hv : (Lit.int .u8 v).wf = true) (b : Int) (hb : (Lit.int .u16 b).wf = true) :
    Calls Try.prog 9 #[.slice a zs.length c, .int .u8 v, .int .u16 b] w fun e w' => e = .returned (.bool true) ∧ Below w.heap.size w w' := by
  unfold maxLen at hm
  by_cases hl : 100 < zs.length
  · have hK := Lib.hid (known_any w)
    clear hR hwf
    go_enter Try.func9, Try.ntmps9
    go_wp2_with (go_at_call 11; refine hK.out.mono ?_; rintro e w' ⟨rfl, hB⟩)
    go_ret
    exact ⟨rfl, hB⟩
  · have hs := Small.of hwf
    have hA : (madeA zs).n = zs.length := rfl
    have hn : (madeA zs).n ≤ 1000 := by rw [hA]; omega
    have H0 : Hid (St w [] w) := St.nil w
    have KM : Hid (∀ ps W', St w ps W' → Calls Try.prog 26 #[.slice a zs.length c] W' fun r w' => ∃ p, r = .returned (.pointer (some ⟨p, 0, none⟩)) ∧ St w (ps ++ [HP p (madeA zs)]) w') := fun ps W' h => h.made (hR.below h.bel) hs (by omega)
    have KC1 : Hid (∀ p P W', St w [HP p (madeA zs), P] W' → Calls Try.prog 24 #[.pointer (some ⟨p, 0, none⟩)] W' fun r w' => ∃ q, r = .returned (.pointer (some ⟨q, 0, none⟩)) ∧ St w [HP p (madeA zs), P, HP q (madeA zs)] w') := fun p P W' h => h.copy (i := 0) rfl
    have KC2 : Hid (∀ p P R W', St w [HP p (madeA zs), P, R] W' → Calls Try.prog 24 #[.pointer (some ⟨p, 0, none⟩)] W' fun r w' => ∃ q, r = .returned (.pointer (some ⟨q, 0, none⟩)) ∧ St w [HP p (madeA zs), P, R, HP q (madeA zs)] w') := fun p P R W' h => h.copy (i := 0) rfl
    have KB : Hid (∀ P1 P2 p P4 W', St w [P1, P2, HP p (madeA zs), P4] W' → Calls Try.prog 14 #[.pointer (some ⟨p, 0, none⟩), .int .i64 v, .int .i64 (b + 1)] W' fun r w' => ∃ x A', r = .returned (.int .i64 x) ∧ St w [P1, P2, HP p A', P4] w') := fun P1 P2 p P4 W' h => by
      refine (h.bump (i := 2) rfl v (b + 1)).mono ?_
      rintro r w' ⟨hr, h9⟩
      exact ⟨_, _, hr, h9⟩
    have KP : Hid (∀ P1 P2 p A P4 W', St w [P1, P2, HP p A, P4] W' → Calls Try.prog 16 #[.pointer (some ⟨p, 0, none⟩)] W' fun r w' => ∃ x y A', r = .returned (.tuple #[.int .i64 x, .int .i64 y]) ∧ St w [P1, P2, HP p A', P4] w') := fun P1 P2 p A P4 W' h => by
      refine (h.pop (i := 2) rfl).mono ?_
      rintro r w' ⟨hr, h9⟩
      exact ⟨_, _, _, hr, h9⟩
    have KA1 : Hid (∀ P1 p P3 P4 W', St w [P1, HP p (madeA zs), P3, P4] W' → Calls Try.prog 27 #[.pointer (some ⟨p, 0, none⟩)] W' fun r w' => ∃ a1 c1, r = .returned (.slice a1 (listOf (madeA zs)).length c1) ∧ St w [P1, HP p (madeA zs).emptied, P3, P4, LS (.slice a1 (listOf (madeA zs)).length c1) (listOf (madeA zs))] w') := fun P1 p P3 P4 W' h => h.all (i := 1) rfl hn
    have KA2 : Hid (∀ p P2 P3 P4 P5 W', St w [HP p (madeA zs), P2, P3, P4, P5] W' → Calls Try.prog 27 #[.pointer (some ⟨p, 0, none⟩)] W' fun r w' => ∃ a1 c1, r = .returned (.slice a1 (listOf (madeA zs)).length c1) ∧ St w [HP p (madeA zs).emptied, P2, P3, P4, P5, LS (.slice a1 (listOf (madeA zs)).length c1) (listOf (madeA zs))] w') := fun p P2 P3 P4 P5 W' h => h.all (i := 0) rfl hn
    have KA3 : Hid (∀ P1 P2 P3 p P5 P6 W', St w [P1, P2, P3, HP p (madeA zs), P5, P6] W' → Calls Try.prog 27 #[.pointer (some ⟨p, 0, none⟩)] W' fun r w' => ∃ a1 c1, r = .returned (.slice a1 (listOf (madeA zs)).length c1) ∧ St w [P1, P2, P3, HP p (madeA zs).emptied, P5, P6, LS (.slice a1 (listOf (madeA zs)).length c1) (listOf (madeA zs))] w') := fun P1 P2 P3 p P5 P6 W' h => h.all (i := 3) rfl hn
    have KS1 : Hid (∀ P1 P2 P3 P4 a1 c1 a2 c2 W', St w [P1, P2, P3, P4, LS (.slice a1 (listOf (madeA zs)).length c1) (listOf (madeA zs)), LS (.slice a2 (listOf (madeA zs)).length c2) (listOf (madeA zs))] W' → Calls Try.prog 28 #[.slice a2 (listOf (madeA zs)).length c2, .slice a1 (listOf (madeA zs)).length c1] W' fun r w' => r = .returned (.bool true) ∧ St w [P1, P2, P3, P4, LS (.slice a1 (listOf (madeA zs)).length c1) (listOf (madeA zs)), LS (.slice a2 (listOf (madeA zs)).length c2) (listOf (madeA zs))] w') := fun P1 P2 P3 P4 a1 c1 a2 c2 W' h => by
      refine (h.same (i := 5) (j := 4) hn rfl rfl rfl).mono ?_
      rintro r w' ⟨hr, hq⟩
      exact ⟨hr, h.quiet hq⟩
    have KS2 : Hid (∀ P1 P2 P3 P4 a1 c1 P6 a2 c2 W', St w [P1, P2, P3, P4, LS (.slice a1 (listOf (madeA zs)).length c1) (listOf (madeA zs)), P6, LS (.slice a2 (listOf (madeA zs)).length c2) (listOf (madeA zs))] W' → Calls Try.prog 28 #[.slice a2 (listOf (madeA zs)).length c2, .slice a1 (listOf (madeA zs)).length c1] W' fun r w' => r = .returned (.bool true) ∧ St w [P1, P2, P3, P4, LS (.slice a1 (listOf (madeA zs)).length c1) (listOf (madeA zs)), P6, LS (.slice a2 (listOf (madeA zs)).length c2) (listOf (madeA zs))] w') := fun P1 P2 P3 P4 a1 c1 P6 a2 c2 W' h => by
      refine (h.same (i := 6) (j := 4) hn rfl rfl rfl).mono ?_
      rintro r w' ⟨hr, hq⟩
      exact ⟨hr, h.quiet hq⟩
    have KK : Hid (∀ ps W', St w ps W' → Calls Try.prog 11 #[] W' fun r w' => r = .returned (.bool true) ∧ St w ps w') := fun ps W' h => by
      refine (known_any W').mono ?_
      rintro r w' ⟨hr, hb⟩
      exact ⟨hr, h.below hb⟩
    simp [Lit.wf, IntKind.min, IntKind.max, IntKind.bits, IntKind.signed] at hv hb
    obtain ⟨v0, v1⟩ := hv
    obtain ⟨b0, b1⟩ := hb
    generalize listOf (madeA zs) = L at *
    generalize madeA zs = A at *
    have hll : ¬ (100 : Int) < (zs.length : Int) := by omega
    clear hR hwf hs hA hn hl
    go_enter Try.func9, Try.ntmps9
    go_wp2_with (first | (go_at_call 26; ((with_reducible refine (KM.out [] _ H0.out).mono ?_); rintro r w1 ⟨p1, rfl, h⟩; have HC : Hid (St w [HP p1 A] w1) := h; clear h H0)) | (go_at_call 26; ((with_reducible refine (KM.out [HP p1 A] _ HC.out).mono ?_); rintro r w2 ⟨p2, rfl, h⟩; clear HC; have HC : Hid (St w [HP p1 A, HP p2 A] w2) := h; clear h)) | (go_at_call 24; ((with_reducible refine (KC1.out _ _ _ HC.out).mono ?_); rintro r w3 ⟨p3, rfl, h⟩; clear HC; have HC : Hid (St w [HP p1 A, HP p2 A, HP p3 A] w3) := h; clear h)) | (go_at_call 24; ((with_reducible refine (KC2.out _ _ _ _ HC.out).mono ?_); rintro r w4 ⟨p4, rfl, h⟩; clear HC; have HC : Hid (St w [HP p1 A, HP p2 A, HP p3 A, HP p4 A] w4) := h; clear h)) | (go_at_call 14; ((with_reducible refine (KB.out _ _ _ _ _ HC.out).mono ?_); rintro r w5 ⟨x5, A5, rfl, h⟩; clear HC; have HC := Lib.hid h; clear h)) | (go_at_call 16; ((with_reducible refine (KP.out _ _ _ _ _ _ HC.out).mono ?_); rintro r w6 ⟨x6, y6, A6, rfl, h⟩; clear HC; have HC := Lib.hid h; clear h)) | (go_at_call 27; ((with_reducible refine (KA1.out _ _ _ _ _ HC.out).mono ?_); rintro r w7 ⟨a1, c1, rfl, h⟩; clear HC; have HC := Lib.hid h; clear h)) | (go_at_call 27; ((with_reducible refine (KA2.out _ _ _ _ _ _ HC.out).mono ?_); rintro r w8 ⟨a2, c2, rfl, h⟩; clear HC; have HC := Lib.hid h; clear h)) | (go_at_call 27; ((with_reducible refine (KA3.out _ _ _ _ _ _ _ HC.out).mono ?_); rintro r w9 ⟨a3, c3, rfl, h⟩; clear HC; have HC := Lib.hid h; clear h)) | (go_at_call 28; ((with_reducible refine (KS1.out _ _ _ _ _ _ _ _ _ HC.out).mono ?_); rintro r w10 ⟨rfl, h⟩; clear HC; have HC := Lib.hid h; clear h)) | (go_at_call 28; ((with_reducible refine (KS2.out _ _ _ _ _ _ _ _ _ _ HC.out).mono ?_); rintro r w11 ⟨rfl, h⟩; clear HC; have HC := Lib.hid h; clear h)) | (go_at_call 11; ((with_reducible refine (KK.out _ _ HC.out).mono ?_); rintro r w12 ⟨rfl, h⟩; clear HC; have HC := Lib.hid h; clear h)))
    go_ret
    exact ⟨rfl, HC.out.bel⟩
end Go.Proofs.Ytfighepopmaimaa
