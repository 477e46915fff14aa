/-
  OrderOdd's walk.
-/
import Derived.Test.YtfighepopmaimaaOrdL
namespace Go.Proofs.Ytfighepopmaimaa
open Go.RowKit Go.Lib
open Go.RowKit (Below)

set_option maxHeartbeats 8000000 in
theorem orderOdd_walk (w : World) (a : Option Addr) (c : Nat) (zs : List Int) (hR : U16R w a zs) (hwf : ∀ x ∈ zs, (Lit.int .u16 x).wf = true) (hm : zs.length ≤ maxLen) (v : Int) (_ : (Lit.int .i64 v).wf = true) (b : Int) (_ : (Lit.int .i64 b).wf = true) :
    Calls Try.prog 10 #[.slice a zs.length c, .int .i64 v, .int .i64 b] w fun e w' => e = .returned (.bool true) ∧ Below w.heap.size w w' := by
  unfold maxLen at hm
  by_cases hl : 100 < zs.length
  · have hK := Lib.hid (known_any w)
    clear hR hwf
    go_enter Try.func10, Try.ntmps10
    go_wp2_with (go_at_call 11; refine hK.out.mono ?_; rintro e w' ⟨rfl, hB⟩)
    go_ret
    exact ⟨rfl, hB⟩
  · have hs := Small.of hwf
    have hA : (madeA zs).n = zs.length := rfl
    have hn : (madeA zs).n ≤ 1000 := by rw [hA]; omega
    have H0 : Hid (St w [] w) := St.nil w
    have KM : Hid (∀ ps W', St w ps W' → Calls Try.prog 26 #[.slice a zs.length c] W' fun r w' => ∃ p, r = .returned (.pointer (some ⟨p, 0, none⟩)) ∧ St w (ps ++ [HP p (madeA zs)]) w') := fun ps W' h => h.made (hR.below h.bel) hs (by omega)
    have KB1 : Hid ((madeA zs).okV v = false → ∀ p1 p2 W', St w [HP p1 (madeA zs), HP p2 (madeA zs)] W' → Calls Try.prog 14 #[.pointer (some ⟨p1, 0, none⟩), .int .i64 v, .int .i64 1] W' fun r w' => r = .returned (.int .i64 3) ∧ St w [HP p1 (madeA zs), HP p2 (madeA zs)] w') := fun hv p1 p2 W' h => by
      have h9 := h.bump (i := 0) rfl v 1
      obtain ⟨e1, e2⟩ := (madeA zs).bumpE_bad (v := v) (b := 1) (.inl hv)
      rw [e1, e2] at h9; exact h9
    have KP1 : Hid ((madeA zs).okV v = false → ∀ p1 p2 W', St w [HP p1 (madeA zs), HP p2 (madeA zs)] W' → Calls Try.prog 18 #[.pointer (some ⟨p1, 0, none⟩), .int .i64 v] W' fun r w' => r = .returned (.int .i64 3) ∧ St w [HP p1 (madeA zs), HP p2 (madeA zs)] w') := fun hv p1 p2 W' h => by
      have h9 := h.push (i := 0) rfl v
      unfold Hs.pushE Hs.pushA at h9
      rw [hv] at h9; exact h9
    have KH1 : Hid ((madeA zs).okV v = false → ∀ p1 p2 W', St w [HP p1 (madeA zs), HP p2 (madeA zs)] W' → Calls Try.prog 20 #[.pointer (some ⟨p1, 0, none⟩), .int .i64 v] W' fun r w' => r = .returned (.bool false) ∧ W' = w') := fun hv p1 p2 W' h => by
      have h9 := h.has (i := 0) rfl v
      unfold Hs.hasB at h9
      rw [hv] at h9; exact h9
    have KB2 : Hid (b < 0 ∨ 1099511627776 < b → ∀ p1 p2 W', St w [HP p1 (madeA zs), HP p2 (madeA zs)] W' → Calls Try.prog 14 #[.pointer (some ⟨p1, 0, none⟩), .int .i64 v, .int .i64 b] W' fun r w' => r = .returned (.int .i64 3) ∧ St w [HP p1 (madeA zs), HP p2 (madeA zs)] w') := fun hb p1 p2 W' h => by
      have h9 := h.bump (i := 0) rfl v b
      obtain ⟨e1, e2⟩ := (madeA zs).bumpE_bad (v := v) (b := b) (.inr (hb.imp id .inl))
      rw [e1, e2] at h9; exact h9
    have KA1 : Hid (∀ p1 p2 W', St w [HP p1 (madeA zs), HP p2 (madeA zs)] W' → Calls Try.prog 27 #[.pointer (some ⟨p1, 0, none⟩)] W' fun r w' => ∃ a1 c1, r = .returned (.slice a1 (listOf (madeA zs)).length c1) ∧ St w [HP p1 (madeA zs).emptied, HP p2 (madeA zs), LS (.slice a1 (listOf (madeA zs)).length c1) (listOf (madeA zs))] w') := fun p1 p2 W' h => h.all (i := 0) rfl hn
    have KA2 : Hid (∀ p1 p2 S W', St w [HP p1 (madeA zs).emptied, HP p2 (madeA zs), S] W' → Calls Try.prog 27 #[.pointer (some ⟨p2, 0, none⟩)] W' fun r w' => ∃ a1 c1, r = .returned (.slice a1 (listOf (madeA zs)).length c1) ∧ St w [HP p1 (madeA zs).emptied, HP p2 (madeA zs).emptied, S, LS (.slice a1 (listOf (madeA zs)).length c1) (listOf (madeA zs))] w') := fun p1 p2 S W' h => h.all (i := 1) rfl hn
    have KS : Hid (∀ P1 P2 a1 c1 a2 c2 W', St w [P1, P2, LS (.slice a1 (listOf (madeA zs)).length c1) (listOf (madeA zs)), LS (.slice a2 (listOf (madeA zs)).length c2) (listOf (madeA zs))] W' → Calls Try.prog 28 #[.slice a1 (listOf (madeA zs)).length c1, .slice a2 (listOf (madeA zs)).length c2] W' fun r w' => r = .returned (.bool true) ∧ St w [P1, P2, LS (.slice a1 (listOf (madeA zs)).length c1) (listOf (madeA zs)), LS (.slice a2 (listOf (madeA zs)).length c2) (listOf (madeA zs))] w') := fun P1 P2 a1 c1 a2 c2 W' h => by
      refine (h.same (i := 2) (j := 3) hn rfl rfl rfl).mono ?_
      rintro r w' ⟨hr, hq⟩
      exact ⟨hr, h.quiet hq⟩
    have KK : Hid (∀ ps W', St w ps W' → Calls Try.prog 11 #[] W' fun r w' => r = .returned (.bool true) ∧ St w ps w') := fun ps W' h => by
      refine (known_any W').mono ?_
      rintro r w' ⟨hr, hb⟩
      exact ⟨hr, h.below hb⟩
    have hv3 : v < 1 ∧ (madeA zs).okV v = false ∨ ¬ v < 1 ∧ (zs.length : Int) < v ∧ (madeA zs).okV v = false ∨ ¬ v < 1 ∧ ¬ (zs.length : Int) < v := by
      unfold Hs.okV; rw [hA]; simp; omega
    have hb3 : b < 0 ∨ ¬ b < 0 ∧ 1099511627776 < b ∨ ¬ b < 0 ∧ ¬ 1099511627776 < b := by omega
    generalize listOf (madeA zs) = L at *
    generalize madeA zs = A at *
    have hll : ¬ (100 : Int) < (zs.length : Int) := by omega
    clear hR hwf hs hA hn hl
    rcases hv3 with ⟨hv, hov⟩ | ⟨hv, hv2, hov⟩ | ⟨hv, hv2⟩ <;> rcases hb3 with hb | ⟨hb, hb2⟩ | ⟨hb, hb2⟩
    all_goals
      try (replace KB1 := Lib.hid (KB1.out hov))
      try (replace KP1 := Lib.hid (KP1.out hov))
      try (replace KH1 := Lib.hid (KH1.out hov))
      try clear hov
      try (replace KB2 := Lib.hid (KB2.out (.inl hb)))
      try (replace KB2 := Lib.hid (KB2.out (.inr hb2)))
      go_enter Try.func10, Try.ntmps10
      go_wp2_with (first | (go_at_call 26; ((with_reducible refine (KM.out [] _ H0.out).mono ?_); rintro r w1 ⟨p1, rfl, h⟩; have HC : Hid (St w [HP p1 A] w1) := h; clear h H0)) | (go_at_call 26; ((with_reducible refine (KM.out [HP p1 A] _ HC.out).mono ?_); rintro r w2 ⟨p2, rfl, h⟩; clear HC; have HC : Hid (St w [HP p1 A, HP p2 A] w2) := h; clear h)) | (go_at_call 14; ((with_reducible refine (KB1.out _ _ _ HC.out).mono ?_); rintro r w3 ⟨rfl, h⟩; clear HC; have HC := Lib.hid h; clear h)) | (go_at_call 18; ((with_reducible refine (KP1.out _ _ _ HC.out).mono ?_); rintro r w4 ⟨rfl, h⟩; clear HC; have HC := Lib.hid h; clear h)) | (go_at_call 20; ((with_reducible refine (KH1.out _ _ _ HC.out).mono ?_); rintro r w9 ⟨rfl, rfl⟩)) | (go_at_call 14; ((with_reducible refine (KB2.out _ _ _ HC.out).mono ?_); rintro r w5 ⟨rfl, h⟩; clear HC; have HC := Lib.hid h; clear h)) | (go_at_call 27; ((with_reducible refine (KA1.out _ _ _ HC.out).mono ?_); rintro r w6 ⟨a1, c1, rfl, h⟩; clear HC; have HC := Lib.hid h; clear h)) | (go_at_call 27; ((with_reducible refine (KA2.out _ _ _ _ HC.out).mono ?_); rintro r w7 ⟨a2, c2, rfl, h⟩; clear HC; have HC := Lib.hid h; clear h)) | (go_at_call 28; ((with_reducible refine (KS.out _ _ _ _ _ _ _ HC.out).mono ?_); rintro r w8 ⟨rfl, h⟩; clear HC; have HC := Lib.hid h; clear h)) | (go_at_call 11; ((with_reducible refine (KK.out _ _ HC.out).mono ?_); rintro r w10 ⟨rfl, h⟩; clear HC; have HC := Lib.hid h; clear h)))
      go_ret
      exact ⟨rfl, HC.out.bel⟩
end Go.Proofs.Ytfighepopmaimaa
