/-
  LitNorms' walk.
-/
import Derived.Test.YtiddnahipdlgkaaLitO
namespace Go.Proofs.Ytiddnahipdlgkaa
open Go.RowKit Go.Lib
open Go.RowKit (Below)

theorem eqB_refl (zs : List Int) : eqB zs zs = true := decide_eq_true rfl
theorem equal_self {xs : List Int} {k : Nat} (hk : xs.length = k) (a c : Option Addr) (ca cc : Nat) (w : World) (hb : k ≤ maxLen) (hX : IntsR w a xs) (hY : IntsR w c xs) :
    Calls Try.prog 18 #[.slice a k ca, .slice c k cc] w fun e w' => e = .returned (.bool true) ∧ Below w.heap.size w w' :=
  equal_is hk hk (eqB_refl xs) a c ca cc w hb hX hY

theorem normStep_length {acc r : List Int} {x : Int} (h : normStep acc x = some r) : r.length ≤ acc.length + 1 := by
  unfold normStep at h
  split at h
  · injection h with h; subst h; omega
  · split at h
    · injection h with h; subst h; simp
    · split at h
      · injection h with h; subst h; omega
      · split at h
        · cases h
        · injection h with h; subst h; simp
theorem normFold_length : ∀ (S acc r : List Int), S.foldlM normStep acc = some r → r.length ≤ acc.length + S.length
  | [], acc, r, h => by
    rw [List.foldlM_nil] at h
    injection h with h; subst h; simp
  | x :: S, acc, r, h => by
    rw [List.foldlM_cons] at h
    cases hs : normStep acc x with
    | none => rw [hs] at h; cases h
    | some b =>
      rw [hs] at h
      have h1 := normFold_length S b r h
      have h2 := normStep_length hs
      simp only [List.length_cons]; omega
theorem normB_length (zs : List Int) : (normB zs).1.length ≤ zs.length := by
  cases h : normFold (sortL zs) with
  | none => rw [normB_none h]; simp
  | some r =>
    rw [normB_some h]
    have := normFold_length _ _ _ h
    rw [sortL_length] at this
    simpa using this

set_option maxHeartbeats 2000000 in
theorem litNorms_walk (w : World) (a : Option Addr) (c : Nat) (zs : List Int) (hR : IntsR w a zs) (_ : ∀ x ∈ zs, (Lit.int .i64 x).wf = true) (hm : zs.length ≤ maxLen) (x : Int) (_ : (Lit.int .i64 x).wf = true) (y : Int) (_ : (Lit.int .i64 y).wf = true) :
    Calls Try.prog 4 #[.slice a zs.length c, .int .i64 x, .int .i64 y] w fun e w' => e = .returned (.bool true) ∧ Below w.heap.size w w' := by
  unfold maxLen at hm
  by_cases hl : 200 < zs.length
  · have hK := known_any w
    go_enter Try.func4, Try.ntmps4
    go_wp2_with (go_at_call 12; refine hK.mono ?_; rintro e w' ⟨rfl, hB⟩)
    go_ret
    exact ⟨rfl, hB⟩
  · have hl' : zs.length ≤ 200 := by omega
    have hrl := normB_length zs
    obtain ⟨r, hr⟩ : ∃ r, (normB zs).1 = r := ⟨_, rfl⟩
    obtain ⟨is, his⟩ : ∃ is, (normB zs).2 = is := ⟨_, rfl⟩
    rw [hr] at hrl
    have hnB : Hid (normB zs = (r, is)) := Prod.ext hr his
    obtain ⟨n, hn⟩ : ∃ n, r.length = n := ⟨_, rfl⟩
    rw [hn] at hrl
    have HN := Lib.hid hn
    clear hl hr his hn
    go_enter Try.func4, Try.ntmps4
    go_wp2_with fail
    refine (copyInts_any a c zs w (by omega) hR).mono ?_
    rintro e w1 ⟨v, rfl, hown, hB1⟩
    obtain ⟨a2, c2, rfl, hR2⟩ := hown.reads
    have hR1 := hR.below hB1
    have B1 := Lib.hid hB1
    clear hown hB1 hR
    go_wp2_with fail
    refine (norm_is rfl HN.out hnB.out a2 c2 w1 (by omega) hR2).mono ?_
    rintro e w2 ⟨a3, c3, rfl, hR3, hB2⟩
    have hR12 := hR1.below hB2
    have hR22 := hR2.below hB2
    have B2 := Lib.hid (B1.out.trans (hB2.mono B1.out.size))
    clear hR1 hR2 hB2 B1
    have hRN := refNorm_any a c zs w2 (by omega) hR12
    rw [hnB.out, show (r, is).1.length = n from HN.out] at hRN
    have HRN := Lib.hid hRN
    clear hRN
    go_wp2_with fail
    refine HRN.out.mono ?_
    rintro e w3 ⟨a4, c4, rfl, hR4, hB3⟩
    have hR13 := hR12.below hB3
    have hR23 := hR22.below hB3
    have hR33 := hR3.below hB3
    have B3 := Lib.hid (B2.out.trans (hB3.mono B2.out.size))
    clear hR12 hR22 hR3 hB3 B2 HRN
    go_wp2_with fail
    refine (equal_self HN.out a3 a4 c3 c4 w3 (by unfold maxLen; omega) hR33 hR4).mono ?_
    rintro e w4 ⟨rfl, hB4⟩
    have hR14 := hR13.below hB4
    have hR24 := hR23.below hB4
    have B4 := Lib.hid (B3.out.trans (hB4.mono B3.out.size))
    clear hR13 hR23 hR33 hR4 hB4 B3
    have hii : (is == is) = true := by simp
    go_wp2_with fail
    refine (equal_self rfl a2 a c2 c w4 (by unfold maxLen; omega) hR24 hR14).mono ?_
    rintro e w5 ⟨rfl, hB5⟩
    have B5 := Lib.hid (B4.out.trans (hB5.mono B4.out.size))
    clear hR14 hR24 hB5 B4
    go_wp2_with (first | (go_at_call 19; refine (less_any _ _ _).mono ?_; rintro e w' ⟨rfl, rfl⟩) | (go_at_call 20; refine (refLess_any _ _ _).mono ?_; rintro e w' ⟨rfl, rfl⟩) | (go_at_call 12; refine (known_any _).mono ?_; rintro e w' ⟨rfl, hB⟩))
    go_ret
    exact ⟨rfl, B5.out.trans (hB.mono B5.out.size)⟩
end Go.Proofs.Ytiddnahipdlgkaa
