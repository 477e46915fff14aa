/-
  OrderNames' walk.
-/
import Derived.Test.YtfighepopmaimaaOrdM
namespace Go.Proofs.Ytfighepopmaimaa
open Go.RowKit Go.Lib
open Go.RowKit (Below)

def nB0 : Hs := Hs.new 3
def nB1 : Hs := nB0.popA
def nB2 : Hs := nB1.bumpA 1 5
def nB3 : Hs := nB2.popA
def nB4 : Hs := nB3.pushA 1
def nB5 : Hs := nB4.pushA 1
def nB6 : Hs := nB5.popA
def nB7 : Hs := nB6.bumpA 4 1
def nB8 : Hs := nB7.bumpA 0 1
def nB9 : Hs := nB8.bumpA 1 (-1)
def nB10 : Hs := nB9.pushA 4
def nB11 : Hs := nB10.bumpA 1 1099511627777
def nB12 : Hs := nB11.bumpA 1 1099511627776
theorem fullStep {A : Hs} {k : Nat} (hn : A.n = 1) (ha : A.act 0 = (k : Int) * 1099511627776) (hk : k < 1048576) : A.bumpE 1 1099511627776 = 0 ∧ (A.bumpA 1 1099511627776).n = 1 ∧ (A.bumpA 1 1099511627776).act 0 = ((k + 1 : Nat) : Int) * 1099511627776 := by
  obtain ⟨h1, h2⟩ := A.bumpE_good (e := 0) (b := 1099511627776) (by omega) (by omega) (by omega) (by rw [ha]; omega)
  refine ⟨h1, ?_, ?_⟩
  · show (A.bumpA (((0 : Nat) : Int) + 1) 1099511627776).n = 1
    rw [h2]; exact hn
  · show (A.bumpA (((0 : Nat) : Int) + 1) 1099511627776).act 0 = _
    rw [h2]
    show upN A.act 0 (A.act 0 + 1099511627776) 0 = _
    rw [upN_same, ha]; omega
theorem fullEnd {A : Hs} (hn : A.n = 1) (ha : A.act 0 = 1152921504606846976) : A.bumpE 1 1 = 3 ∧ A.bumpA 1 1 = A ∧ A.bumpE 1 0 = 0 := by
  obtain ⟨h1, h2⟩ := A.bumpE_bad (v := 1) (b := 1) (.inr (.inr (.inr (by show 1152921504606846976 < A.act 0 + 1; omega))))
  exact ⟨h1, h2, (A.bumpE_good (e := 0) (b := 0) (by omega) (by omega) (by omega) (by rw [ha]; omega)).1⟩

set_option maxRecDepth 100000 in
set_option maxHeartbeats 16000000 in
theorem orderNames_walk (w : World) : Calls Try.prog 5 #[] w fun e w' => e = .returned (.bool true) ∧ Below w.heap.size w w' := by
  have H0 : Hid (St w [] w) := St.nil w
  obtain ⟨N, HN⟩ : ∃ N, Hid (N = 1048576) := ⟨1048576, Lib.hid rfl⟩
  have KN : Hid (Calls Try.prog 12 #[.int .i64 3] w fun r w' => ∃ p, r = .returned (.tuple #[.pointer (some ⟨p, 0, none⟩), .int .i64 0]) ∧ St w [HP p nB0] w') := H0.out.new (n := 3) (by omega)
  have K0 : Hid (∀ p W', St w [HP p nB0] W' → Calls Try.prog 16 #[.pointer (some ⟨p, 0, none⟩)] W' fun r w' => r = .returned (.tuple #[.int .i64 1, .int .i64 0]) ∧ St w [HP p nB1] w') := fun p W' h => h.pop (i := 0) rfl
  have K1 : Hid (∀ p W', St w [HP p nB1] W' → Calls Try.prog 22 #[.pointer (some ⟨p, 0, none⟩)] W' fun r w' => r = .returned (.int .i64 2) ∧ W' = w') := fun p W' h => h.len (i := 0) rfl
  have K2 : Hid (∀ p W', St w [HP p nB1] W' → Calls Try.prog 20 #[.pointer (some ⟨p, 0, none⟩), .int .i64 1] W' fun r w' => r = .returned (.bool false) ∧ W' = w') := fun p W' h => h.has (i := 0) rfl 1
  have K3 : Hid (∀ p W', St w [HP p nB1] W' → Calls Try.prog 20 #[.pointer (some ⟨p, 0, none⟩), .int .i64 2] W' fun r w' => r = .returned (.bool true) ∧ W' = w') := fun p W' h => h.has (i := 0) rfl 2
  have K4 : Hid (∀ p W', St w [HP p nB1] W' → Calls Try.prog 20 #[.pointer (some ⟨p, 0, none⟩), .int .i64 4] W' fun r w' => r = .returned (.bool false) ∧ W' = w') := fun p W' h => h.has (i := 0) rfl 4
  have K5 : Hid (∀ p W', St w [HP p nB1] W' → Calls Try.prog 20 #[.pointer (some ⟨p, 0, none⟩), .int .i64 0] W' fun r w' => r = .returned (.bool false) ∧ W' = w') := fun p W' h => h.has (i := 0) rfl 0
  have K6 : Hid (∀ p W', St w [HP p nB1] W' → Calls Try.prog 14 #[.pointer (some ⟨p, 0, none⟩), .int .i64 1, .int .i64 5] W' fun r w' => r = .returned (.int .i64 0) ∧ St w [HP p nB2] w') := fun p W' h => h.bump (i := 0) rfl 1 5
  have K7 : Hid (∀ p W', St w [HP p nB2] W' → Calls Try.prog 16 #[.pointer (some ⟨p, 0, none⟩)] W' fun r w' => r = .returned (.tuple #[.int .i64 2, .int .i64 0]) ∧ St w [HP p nB3] w') := fun p W' h => h.pop (i := 0) rfl
  have K8 : Hid (∀ p W', St w [HP p nB3] W' → Calls Try.prog 18 #[.pointer (some ⟨p, 0, none⟩), .int .i64 1] W' fun r w' => r = .returned (.int .i64 0) ∧ St w [HP p nB4] w') := fun p W' h => h.push (i := 0) rfl 1
  have K9 : Hid (∀ p W', St w [HP p nB4] W' → Calls Try.prog 18 #[.pointer (some ⟨p, 0, none⟩), .int .i64 1] W' fun r w' => r = .returned (.int .i64 0) ∧ St w [HP p nB5] w') := fun p W' h => h.push (i := 0) rfl 1
  have K10 : Hid (∀ p W', St w [HP p nB5] W' → Calls Try.prog 22 #[.pointer (some ⟨p, 0, none⟩)] W' fun r w' => r = .returned (.int .i64 2) ∧ W' = w') := fun p W' h => h.len (i := 0) rfl
  have K11 : Hid (∀ p W', St w [HP p nB5] W' → Calls Try.prog 16 #[.pointer (some ⟨p, 0, none⟩)] W' fun r w' => r = .returned (.tuple #[.int .i64 1, .int .i64 0]) ∧ St w [HP p nB6] w') := fun p W' h => h.pop (i := 0) rfl
  have K12 : Hid (∀ p W', St w [HP p nB6] W' → Calls Try.prog 14 #[.pointer (some ⟨p, 0, none⟩), .int .i64 4, .int .i64 1] W' fun r w' => r = .returned (.int .i64 3) ∧ St w [HP p nB7] w') := fun p W' h => h.bump (i := 0) rfl 4 1
  have K13 : Hid (∀ p W', St w [HP p nB7] W' → Calls Try.prog 14 #[.pointer (some ⟨p, 0, none⟩), .int .i64 0, .int .i64 1] W' fun r w' => r = .returned (.int .i64 3) ∧ St w [HP p nB8] w') := fun p W' h => h.bump (i := 0) rfl 0 1
  have K14 : Hid (∀ p W', St w [HP p nB8] W' → Calls Try.prog 14 #[.pointer (some ⟨p, 0, none⟩), .int .i64 1, .int .i64 (-1)] W' fun r w' => r = .returned (.int .i64 3) ∧ St w [HP p nB9] w') := fun p W' h => h.bump (i := 0) rfl 1 (-1)
  have K15 : Hid (∀ p W', St w [HP p nB9] W' → Calls Try.prog 18 #[.pointer (some ⟨p, 0, none⟩), .int .i64 4] W' fun r w' => r = .returned (.int .i64 3) ∧ St w [HP p nB10] w') := fun p W' h => h.push (i := 0) rfl 4
  have K16 : Hid (∀ p W', St w [HP p nB10] W' → Calls Try.prog 14 #[.pointer (some ⟨p, 0, none⟩), .int .i64 1, .int .i64 1099511627777] W' fun r w' => r = .returned (.int .i64 3) ∧ St w [HP p nB11] w') := fun p W' h => h.bump (i := 0) rfl 1 1099511627777
  have K17 : Hid (∀ p W', St w [HP p nB11] W' → Calls Try.prog 14 #[.pointer (some ⟨p, 0, none⟩), .int .i64 1, .int .i64 1099511627776] W' fun r w' => r = .returned (.int .i64 0) ∧ St w [HP p nB12] w') := fun p W' h => h.bump (i := 0) rfl 1 1099511627776
  have KN1 : Hid (∀ W', Calls Try.prog 12 #[.int .i64 (-1)] W' fun r w' => r = .returned (.tuple #[.pointer none, .int .i64 3]) ∧ W' = w') := fun W' => new_bad W' (.inl (by omega))
  have KN2 : Hid (∀ W', Calls Try.prog 12 #[.int .i64 1048577] W' fun r w' => r = .returned (.tuple #[.pointer none, .int .i64 3]) ∧ W' = w') := fun W' => new_bad W' (.inr (by omega))
  have KN3 : Hid (∀ P W', St w [P] W' → Calls Try.prog 12 #[.int .i64 0] W' fun r w' => ∃ p, r = .returned (.tuple #[.pointer (some ⟨p, 0, none⟩), .int .i64 0]) ∧ St w [P, HP p (Hs.new 0)] w') := fun P W' h => h.new (n := 0) (by omega)
  have KP3 : Hid (∀ P p W', St w [P, HP p (Hs.new 0)] W' → Calls Try.prog 16 #[.pointer (some ⟨p, 0, none⟩)] W' fun r w' => r = .returned (.tuple #[.int .i64 0, .int .i64 6]) ∧ St w [P, HP p (Hs.new 0).popA] w') := fun P p W' h => h.pop (i := 1) rfl
  have KL3 : Hid (∀ P p W', St w [P, HP p (Hs.new 0).popA] W' → Calls Try.prog 22 #[.pointer (some ⟨p, 0, none⟩)] W' fun r w' => r = .returned (.int .i64 0) ∧ W' = w') := fun P p W' h => h.len (i := 1) rfl
  have KN4 : Hid (∀ P Q W', St w [P, Q] W' → Calls Try.prog 12 #[.int .i64 1] W' fun r w' => ∃ p, r = .returned (.tuple #[.pointer (some ⟨p, 0, none⟩), .int .i64 0]) ∧ St w [P, Q, HP p (Hs.new 1)] w') := fun P Q W' h => h.new (n := 1) (by omega)
  have KB4 : Hid (∀ P Q p A v b W', St w [P, Q, HP p A] W' → Calls Try.prog 14 #[.pointer (some ⟨p, 0, none⟩), .int .i64 v, .int .i64 b] W' fun r w' => r = .returned (.int .i64 (A.bumpE v b)) ∧ St w [P, Q, HP p (A.bumpA v b)] w') := fun P Q p A v b W' h => h.bump (i := 2) rfl v b
  have KK : Hid (∀ ps W', St w ps W' → Calls Try.prog 11 #[] W' fun r w' => r = .returned (.bool true) ∧ St w ps w') := fun ps W' h => by
    refine (known_any W').mono ?_
    rintro r w' ⟨hr, hb⟩
    exact ⟨hr, h.below hb⟩
  go_enter Try.func5, Try.ntmps5
  go_wp2_with (first | (go_at_call 12; ((with_reducible refine KN.out.mono ?_); rintro r w1 ⟨p1, rfl, h⟩; have HC := Lib.hid h; clear h H0)) | (go_at_call 16; ((with_reducible refine (K0.out _ _ HC.out).mono ?_); rintro r wn ⟨rfl, h⟩; clear HC; have HC := Lib.hid h; clear h)) | (go_at_call 22; ((with_reducible refine (K1.out _ _ HC.out).mono ?_); rintro r wn ⟨rfl, rfl⟩)) | (go_at_call 20; ((with_reducible refine (K2.out _ _ HC.out).mono ?_); rintro r wn ⟨rfl, rfl⟩)) | (go_at_call 20; ((with_reducible refine (K3.out _ _ HC.out).mono ?_); rintro r wn ⟨rfl, rfl⟩)) | (go_at_call 20; ((with_reducible refine (K4.out _ _ HC.out).mono ?_); rintro r wn ⟨rfl, rfl⟩)) | (go_at_call 20; ((with_reducible refine (K5.out _ _ HC.out).mono ?_); rintro r wn ⟨rfl, rfl⟩)) | (go_at_call 14; ((with_reducible refine (K6.out _ _ HC.out).mono ?_); rintro r wn ⟨rfl, h⟩; clear HC; have HC := Lib.hid h; clear h)) | (go_at_call 16; ((with_reducible refine (K7.out _ _ HC.out).mono ?_); rintro r wn ⟨rfl, h⟩; clear HC; have HC := Lib.hid h; clear h)) | (go_at_call 18; ((with_reducible refine (K8.out _ _ HC.out).mono ?_); rintro r wn ⟨rfl, h⟩; clear HC; have HC := Lib.hid h; clear h)) | (go_at_call 18; ((with_reducible refine (K9.out _ _ HC.out).mono ?_); rintro r wn ⟨rfl, h⟩; clear HC; have HC := Lib.hid h; clear h)) | (go_at_call 22; ((with_reducible refine (K10.out _ _ HC.out).mono ?_); rintro r wn ⟨rfl, rfl⟩)) | (go_at_call 16; ((with_reducible refine (K11.out _ _ HC.out).mono ?_); rintro r wn ⟨rfl, h⟩; clear HC; have HC := Lib.hid h; clear h)) | (go_at_call 14; ((with_reducible refine (K12.out _ _ HC.out).mono ?_); rintro r wn ⟨rfl, h⟩; clear HC; have HC := Lib.hid h; clear h)) | (go_at_call 14; ((with_reducible refine (K13.out _ _ HC.out).mono ?_); rintro r wn ⟨rfl, h⟩; clear HC; have HC := Lib.hid h; clear h)) | (go_at_call 14; ((with_reducible refine (K14.out _ _ HC.out).mono ?_); rintro r wn ⟨rfl, h⟩; clear HC; have HC := Lib.hid h; clear h)) | (go_at_call 18; ((with_reducible refine (K15.out _ _ HC.out).mono ?_); rintro r wn ⟨rfl, h⟩; clear HC; have HC := Lib.hid h; clear h)) | (go_at_call 14; ((with_reducible refine (K16.out _ _ HC.out).mono ?_); rintro r wn ⟨rfl, h⟩; clear HC; have HC := Lib.hid h; clear h)) | (go_at_call 14; ((with_reducible refine (K17.out _ _ HC.out).mono ?_); rintro r wn ⟨rfl, h⟩; clear HC; have HC := Lib.hid h; clear h)) | (go_at_call 12; ((with_reducible refine (KN1.out _).mono ?_); rintro r wn ⟨rfl, rfl⟩)) | (go_at_call 12; ((with_reducible refine (KN2.out _).mono ?_); rintro r wn ⟨rfl, rfl⟩)) | (go_at_call 12; ((with_reducible refine (KN3.out _ _ HC.out).mono ?_); rintro r wn ⟨p2, rfl, h⟩; clear HC; have HC := Lib.hid h; clear h)) | (go_at_call 16; ((with_reducible refine (KP3.out _ _ _ HC.out).mono ?_); rintro r wn ⟨rfl, h⟩; clear HC; have HC := Lib.hid h; clear h)) | (go_at_call 22; ((with_reducible refine (KL3.out _ _ _ HC.out).mono ?_); rintro r wn ⟨rfl, rfl⟩)) | (go_at_call 12; ((with_reducible refine (KN4.out _ _ _ HC.out).mono ?_); rintro r wn ⟨p3, rfl, h⟩; clear HC; have HC := Lib.hid h; clear h)))
  go_loopw [11] (fun t wr => ∃ (k : Nat) (A : Hs), t = .int .i64 k ∧ k ≤ 1048576 ∧ Hid (St w [HP p1 nB12, HP p2 (Hs.new 0).popA, HP p3 A] wr) ∧ Hid (A.n = 1 ∧ A.act 0 = (k : Int) * 1099511627776)) (fun t _ => N - (intOf t).toNat)
  case atStart => exact ⟨0, Hs.new 1, rfl, Nat.zero_le _, HC, ⟨rfl, rfl⟩⟩
  case round =>
    obtain ⟨k, A, rfl, hk, HC2, HA⟩ := hrel
    clear HC
    by_cases hlt : k < 1048576
    · obtain ⟨e1, e2, e3⟩ := fullStep HA.out.1 HA.out.2 hlt
      have HA2 := Lib.hid (And.intro e2 e3)
      have KB5 := KB4.out _ _ _ _ 1 1099511627776 _ HC2.out
      rw [e1] at KB5
      have KB6 := Lib.hid KB5
      have hlt2 : (k : Int) < 1048576 := by omega
      have hk0 : (0 : Int) ≤ (k : Int) := by omega
      have HLT := Lib.hid hlt
      clear KB5 e1 e2 e3 hlt hk
      go_wp2_with (first | (go_at_call 14; ((with_reducible refine KB6.out.mono ?_); rintro r wn ⟨rfl, h⟩; have HC := Lib.hid h; clear h)))
      go_roundw
      case rel => exact ⟨k + 1, _, by go_num, by have := HLT.out; omega, HC, HA2⟩
      case measure => have := HN.out; have := HLT.out; simp [intOf]; omega
    · obtain ⟨e1, e2, e3⟩ := fullEnd HA.out.1 (HA.out.2.trans (by omega))
      have hk3 : ¬ (k : Int) < 1048576 := by omega
      have KB5 := KB4.out _ _ _ _ 1 1 _ HC2.out
      rw [e1, e2] at KB5
      have KB6 := Lib.hid KB5
      have KB7 : Hid (∀ P Q p W', St w [P, Q, HP p A] W' → Calls Try.prog 14 #[.pointer (some ⟨p, 0, none⟩), .int .i64 1, .int .i64 0] W' fun r w' => r = .returned (.int .i64 0) ∧ St w [P, Q, HP p (A.bumpA 1 0)] w') := fun P Q p W' h => by
        have h9 := KB4.out P Q p A 1 0 W' h
        rw [e3] at h9; exact h9
      clear KB5 e1 e2 e3 hlt hk
      go_wp2_with (first | (go_at_call 14; ((with_reducible refine KB6.out.mono ?_); rintro r wn ⟨rfl, h⟩; have HC := Lib.hid h; clear h)) | (go_at_call 14; ((with_reducible refine (KB7.out _ _ _ _ HC.out).mono ?_); rintro r wn ⟨rfl, h⟩; clear HC; have HC := Lib.hid h; clear h)) | (go_at_call 16; ((with_reducible refine (pop_nil _).mono ?_); rintro r wn ⟨rfl, rfl⟩)) | (go_at_call 14; ((with_reducible refine (bump_nil _ _ _).mono ?_); rintro r wn ⟨rfl, rfl⟩)) | (go_at_call 18; ((with_reducible refine (push_nil _ _).mono ?_); rintro r wn ⟨rfl, rfl⟩)) | (go_at_call 20; ((with_reducible refine (has_nil _ _).mono ?_); rintro r wn ⟨rfl, rfl⟩)) | (go_at_call 22; ((with_reducible refine (len_nil _).mono ?_); rintro r wn ⟨rfl, rfl⟩)) | (go_at_call 24; ((with_reducible refine (copy_nil _).mono ?_); rintro r wn ⟨rfl, rfl⟩)) | (go_at_call 11; ((with_reducible refine (KK.out _ _ HC.out).mono ?_); rintro r wn ⟨rfl, h⟩; clear HC; have HC := Lib.hid h; clear h)))
      go_ret
      exact ⟨rfl, HC.out.bel⟩
end Go.Proofs.Ytfighepopmaimaa
