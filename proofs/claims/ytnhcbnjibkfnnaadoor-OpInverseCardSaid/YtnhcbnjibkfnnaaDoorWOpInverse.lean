/-
  OpInverse' walk.
-/
import Derived.Test.YtnhcbnjibkfnnaaDoorOpC
import Derived.Test.YtnhcbnjibkfnnaaDoorRowLaidOp
namespace Go.Proofs.YtnhcbnjibkfnnaaDoor
open Go.RowKit Go.Lib Ops
open Go.RowKit (Below)

theorem name_of {a : Nat} (h2 : 2 ≤ a) (h22 : a < 22) {e : Ending} (h : OfPost (nameB a) e) : e = .returned (.tuple #[.int .u8 (a : Int), .int .i64 0]) := by
  rcases h with ⟨k, hk, hn, rfl⟩ | ⟨h, _⟩
  · have hinj : k + 2 = a := by
      have := nameB_inj (k := k) (j := a - 2) hk (by omega) (by rw [hn]; congr 1; omega)
      omega
    rw [← hinj]; rfl
  · exact absurd (by congr 1; omega) (h (a - 2) (by omega))

set_option maxRecDepth 100000 in
set_option maxHeartbeats 4000000 in
theorem opInverse_walk (w : World) (o : Int) (ho : (Lit.int .u8 o).wf = true) (p : Int) (hp : (Lit.int .u8 p).wf = true) (he : Env w) :
    Calls Tryd.prog 6 #[.int .u8 o, .int .u8 p] w fun e w' => e = .returned (.bool true) ∧ Below w.heap.size w w' := by
  obtain ⟨a, rfl, ha⟩ : ∃ a : Nat, o = a ∧ a ≤ 255 := by have := u8_range ho; exact ⟨o.toNat, by omega, by omega⟩
  obtain ⟨b, rfl, hb⟩ : ∃ a : Nat, p = a ∧ a ≤ 255 := by have := u8_range hp; exact ⟨p.toNat, by omega, by omega⟩
  have HE := Lib.hid he
  clear he ho hp
  by_cases h2 : 2 ≤ a ∧ a < 22
  · have hS : nmS a = nameB a := by unfold nmS; rw [if_pos h2]
    have hE : nmE a = 0 := by unfold nmE; rw [if_pos h2.2, if_neg (by omega)]
    obtain ⟨T, hT⟩ : ∃ T, nmS b = T := ⟨_, rfl⟩
    obtain ⟨f, hf⟩ : ∃ f, nmE b = f := ⟨_, rfl⟩
    obtain ⟨N, hN⟩ : ∃ N, nameB a = N := ⟨_, rfl⟩
    have hx : ((a : Int) == b) = ((f == 0) && (N.toList == T.toList)) := by
      rw [← hf, ← hT, ← hN, Lib.toList_data, Lib.toList_data]
      by_cases h : b < 22
      · by_cases h3 : b < 2
        · have : nmE b = 6 := by unfold nmE; rw [if_pos h, if_pos h3]
          rw [this]; simp; omega
        · have h4 : nmE b = 0 := by unfold nmE; rw [if_pos h, if_neg h3]
          have h5 : nmS b = nameB b := by unfold nmS; rw [if_pos ⟨by omega, h⟩]
          rw [h4, h5]
          by_cases hab : a = b
          · subst hab; simp
          · have : (nameB a).data.toList ≠ (nameB b).data.toList := fun h6 => hab (by
              have := nameB_inj (k := a - 2) (j := b - 2) (by omega) (by omega) (by
                rw [show a - 2 + 2 = a by omega, show b - 2 + 2 = b by omega]
                exact ByteArray.ext (Array.ext' h6))
              omega)
            have h7 : ((nameB a).data.toList == (nameB b).data.toList) = false := by simpa using fun h6 => this (by rw [h6])
            rw [h7]; simp; omega
      · have : nmE b = 3 := by unfold nmE; rw [if_neg h]
        rw [this]; simp; omega
    obtain ⟨q, hq⟩ : ∃ q, ((a : Int) == b) = q := ⟨_, rfl⟩
    rw [hq] at hx
    go_enter Tryd.func6, Tryd.ntmps6
    go_wp2_with fail
    refine (name_two a ha _ HE.out).mono ?_
    rintro e w1 ⟨rfl, rfl⟩
    rw [hS, hE, hN]
    go_wp2_with fail
    refine (name_two b hb _ HE.out).mono ?_
    rintro e w1 ⟨rfl, rfl⟩
    rw [hT, hf]
    have HT := Lib.hid hT
    have HF := Lib.hid hf
    have HN := Lib.hid hN
    have HX := Lib.hid hx
    clear hS hE hT hf hN hx
    have h2a := h2.1
    have h2b := h2.2
    have hi1 : (2 : Int) ≤ a := by omega
    have hi2 : (a : Int) ≤ 21 := by omega
    go_wp2_with fail
    refine (of_is _ _).mono ?_
    rintro e w2 ⟨hP, hB⟩
    obtain rfl := name_of h2a h2b (by rw [HN.out]; exact hP)
    have HB := Lib.hid hB
    clear hP hB
    by_cases hf0 : f = 0
    · have hx1 := HX.out
      rw [hf0] at hx1
      have hx2 : (N.toList == T.toList) = q := by simpa using hx1.symm
      clear hx1 HX
      subst hf0
      go_wp2_with fail
      refine (lawKnown_is _ (HE.out.below HB.out)).mono ?_
      rintro e w3 ⟨rfl, hB⟩
      have HB3 := Lib.hid (HB.out.trans (hB.mono HB.out.size))
      clear hB HB
      go_wp2
      go_ret
      exact ⟨rfl, HB3.out⟩
    · have hf1 : (f == 0) = false := by simpa using hf0
      have hx1 := HX.out
      rw [hf1] at hx1
      have hx2 : q = false := by simpa using hx1
      clear hx1 HX
      subst hx2
      go_wp2_with fail
      refine (lawKnown_is _ (HE.out.below HB.out)).mono ?_
      rintro e w3 ⟨rfl, hB⟩
      have HB3 := Lib.hid (HB.out.trans (hB.mono HB.out.size))
      clear hB HB
      go_wp2
      go_ret
      exact ⟨rfl, HB3.out⟩
  · have hS : nmS a = ⟨#[]⟩ := by unfold nmS; rw [if_neg h2]
    have hE : ∃ f : Int, nmE a = f ∧ f ≠ 0 := by
      unfold nmE
      by_cases h : a < 22
      · rw [if_pos h, if_pos (by omega)]; exact ⟨6, rfl, by omega⟩
      · rw [if_neg h]; exact ⟨3, rfl, by omega⟩
    obtain ⟨f, hE, hf⟩ := hE
    have hf1 : (f == 0) = false := by simpa using hf
    have hnil : ((⟨#[]⟩ : ByteArray).toList == []) = true := by rw [Lib.toList_data]; rfl
    have hi : ¬ ((2 : Int) ≤ a ∧ (a : Int) ≤ 21) := by omega
    go_enter Tryd.func6, Tryd.ntmps6
    go_wp2_with fail
    refine (name_two a ha _ HE.out).mono ?_
    rintro e w1 ⟨rfl, rfl⟩
    rw [hS, hE]
    clear hS hE hf h2
    go_wp2_with fail
    refine (name_two b hb _ HE.out).mono ?_
    rintro e w1 ⟨rfl, rfl⟩
    by_cases hi3 : (2 : Int) ≤ a
    · have hi4 : ¬ (a : Int) ≤ 21 := by omega
      clear hi
      go_wp2_with fail
      refine (lawKnown_is _ HE.out).mono ?_
      rintro e w3 ⟨rfl, hB⟩
      have HB3 := Lib.hid hB
      clear hB
      go_wp2
      go_ret
      exact ⟨rfl, HB3.out⟩
    · clear hi
      go_wp2_with fail
      refine (lawKnown_is _ HE.out).mono ?_
      rintro e w3 ⟨rfl, hB⟩
      have HB3 := Lib.hid hB
      clear hB
      go_wp2
      go_ret
      exact ⟨rfl, HB3.out⟩
end Go.Proofs.YtnhcbnjibkfnnaaDoor
