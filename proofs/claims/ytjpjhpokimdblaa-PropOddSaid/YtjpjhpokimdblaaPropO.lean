/-
  The statements' own small functions: three, units, fails, known; has, assumed.
-/
import Derived.Test.YtjpjhpokimdblaaPropP
namespace Go.Proofs.Ytjpjhpokimdblaa
open Go.RowKit Go.Lib
open Go.RowKit (Below)

theorem threeP_any (w : World) : Calls Try.prog 19 #[] w fun e w' => ∃ g, e = .returned (.agg #[.int .i64 3, .slice (some ⟨g, 0, none⟩) 3 3]) ∧ Grid w' w.heap.size g threeL ∧ Below w.heap.size w w' := by
  have H := fun o => Lib.hid (three_grid w o)
  have HB := fun o => Lib.hid ((W1_below w o).alloc (by rw [W1_size]; omega) (.cells #[.slice (some ⟨w.heap.size + 1, 0, none⟩) 2 2, .slice (some ⟨w.heap.size + 1 + 1, 0, none⟩) 2 2, .slice (some ⟨w.heap.size + 1 + 1 + 1, 0, none⟩) 2 2] 23))
  go_enter Try.func19, Try.ntmps19
  go_wp2
  refine bodyPost_ret (v := .agg #[.int .i64 3, .slice (some ⟨w.heap.size + 1 + 1 + 1 + 1, 0, none⟩) 3 3]) (by simp [results, Try.results19, go_sem]) rfl ⟨_, rfl, (H _).out, (HB _).out⟩

/-- units, where Units answers these literals. -/
theorem unitsLaw_true {n : Nat} {zss : List (List Int)} {xs us : List Int} (a : Option Addr) (c : Nat) (ua : Option Addr) (uc : Nat) (xa : Option Addr) (xc : Nat) (w : World) (hn : n ≤ 1000000) (hm : zss.length ≤ maxLen) (hA : AllLen zss) (hR : RowsR .i64 w a zss)
    (hU : IntsR w ua us) (hX : IntsR w xa xs) (hxl : xs.length ≤ maxLen) (hz : ∀ z ∈ zss, ∀ x ∈ z, Rng x) (hxr : ∀ x ∈ xs, Rng x) (hC : checkP n zss xs = 0) (hF : Follows n zss xs us) {l k kx : Nat} (hl : zss.length = l) (hk : us.length = k) (hkx : xs.length = kx) (hum : us.length ≤ maxLen) :
    Calls Try.prog 18 #[.agg #[.int .i64 n, .slice a l c], .slice ua k uc, .slice xa kx xc] w fun e w' => e = .returned (.bool true) ∧ Below w.heap.size w w' := by
  subst hl hk hkx
  have HU := Lib.hid hU
  have HF := Lib.hid hF
  have HC := Lib.hid hC
  have HUM := Lib.hid hum
  have HPU := Lib.hid (fun (W : World) (h1 : RowsR .i64 W a zss) (h2 : IntsR W xa xs) => units_any (n := n) a c xa xc W hn hm hA h1 h2 hxl hz hxr)
  have HR := Lib.hid hR
  have HX := Lib.hid hX
  clear hU hF hC hR hX hz hxr hA hm hxl hn hum
  go_enter Try.func18, Try.ntmps18
  go_wp2_with fail
  refine (HPU.out _ (HR.out.alloc _) (HX.out.alloc _)).mono ?_
  rintro e w1 ⟨hB, h⟩
  have hv : ∃ v, e = .returned (.tuple #[v, .bool false, .int .i64 0]) ∧ Own w1 (w.alloc (.cells #[.int .i64 n, .slice a zss.length c] 26)).heap.size v us := by
    rcases h with ⟨h1, _⟩ | ⟨_, h1, _⟩ | ⟨_, v, u, h1, h2, h3⟩
    · exact absurd HC.out h1
    · exact absurd h1 HF.out.1
    · rw [follows_unique h1 HF.out] at h3; exact ⟨v, h2, h3⟩
  obtain ⟨v, rfl, hO⟩ := hv
  obtain ⟨va, vc, rfl, hVI⟩ := hO.reads
  have HB := Lib.hid ((boxed w (.cells #[.int .i64 n, .slice a zss.length c] 26)).trans (hB.mono (by simp)))
  have HV := Lib.hid hVI
  have HE := Lib.hid (show eqB us us = true from decide_eq_true rfl)
  clear h hO hVI hB
  go_wp2_with fail
  refine (equal_is rfl rfl HE.out _ _ _ _ _ HUM.out HV.out (HU.out.below HB.out)).mono ?_
  rintro e w2 ⟨rfl, hB2⟩
  have HB2 := Lib.hid (HB.out.trans (hB2.mono HB.out.size))
  clear hB2
  go_wp2
  go_ret
  exact ⟨rfl, HB2.out⟩

/-- fails, where Units fails. -/
theorem failsLaw_true {n : Nat} {zss : List (List Int)} {xs : List Int} (a : Option Addr) (c : Nat) (xa : Option Addr) (xc : Nat) (w : World) (hn : n ≤ 1000000) (hm : zss.length ≤ maxLen) (hA : AllLen zss) (hR : RowsR .i64 w a zss)
    (hX : IntsR w xa xs) (hxl : xs.length ≤ maxLen) (hz : ∀ z ∈ zss, ∀ x ∈ z, Rng x) (hxr : ∀ x ∈ xs, Rng x) (hC : checkP n zss xs = 0) (hF : Fails zss xs) {l kx : Nat} (hl : zss.length = l) (hkx : xs.length = kx) :
    Calls Try.prog 20 #[.agg #[.int .i64 n, .slice a l c], .slice xa kx xc] w fun e w' => e = .returned (.bool true) ∧ Below w.heap.size w w' := by
  subst hl hkx
  have HF := Lib.hid hF
  have HC := Lib.hid hC
  have HPU := Lib.hid (fun (W : World) (h1 : RowsR .i64 W a zss) (h2 : IntsR W xa xs) => units_any (n := n) a c xa xc W hn hm hA h1 h2 hxl hz hxr)
  have HR := Lib.hid hR
  have HX := Lib.hid hX
  clear hF hC hR hX hz hxr hA hm hxl hn
  go_enter Try.func20, Try.ntmps20
  go_wp2_with fail
  refine (HPU.out _ (HR.out.alloc _) (HX.out.alloc _)).mono ?_
  rintro e w1 ⟨hB, h⟩
  have hv : e = .returned (.tuple #[.slice none 0 0, .bool true, .int .i64 0]) := by
    rcases h with ⟨h1, _⟩ | ⟨_, _, h1⟩ | ⟨_, v, u, h1, _⟩
    · exact absurd HC.out h1
    · exact h1
    · exact absurd HF.out h1.1
  subst hv
  have HB := Lib.hid ((boxed w (.cells #[.int .i64 n, .slice a zss.length c] 26)).trans (hB.mono (by simp)))
  clear h hB
  go_wp2
  go_ret
  exact ⟨rfl, HB.out⟩

theorem threeL_rng : ∀ z ∈ threeL, ∀ x ∈ z, Rng x := by
  intro z hz x hx
  simp [threeL] at hz
  rcases hz with rfl | rfl | rfl <;> simp at hx <;> rcases hx with rfl | rfl <;> constructor <;> decide
set_option maxHeartbeats 1000000 in
theorem knownP_any (w : World) : Calls Try.prog 12 #[] w fun e w' => e = .returned (.bool true) ∧ Below w.heap.size w w' := by
  have HA := Lib.hid threeL_all
  have HRG := Lib.hid threeL_rng
  have HF := Lib.hid three_follows
  have HC : Hid (checkP ((3 : Nat) : Int) threeL [1] = 0) := by unfold Hid; decide +kernel
  go_enter Try.func12, Try.ntmps12
  go_wp2_with fail
  refine (threeP_any w).mono ?_
  rintro e w1 ⟨g, rfl, hG, hB⟩
  have HG := Lib.hid hG.rows
  have HB := Lib.hid hB
  clear hG hB
  have hU : ∀ o, IntsR ((w1.alloc (.cells #[.int .i64 1, .int .i64 (-2), .int .i64 3] 3)).alloc o) (some ⟨w1.heap.size, 0, none⟩) [1, -2, 3] := fun o => (IntsR.lit _ _ _ _ rfl rfl).alloc _
  have hX : IntsR ((w1.alloc (.cells #[.int .i64 1, .int .i64 (-2), .int .i64 3] 3)).alloc (.cells #[.int .i64 1] 3)) (some ⟨w1.heap.size + 1, 0, none⟩) [1] := IntsR.lit _ _ _ _ (by simp) rfl
  have HU := Lib.hid (hU (.cells #[.int .i64 1] 3))
  have HX := Lib.hid hX
  have HB2 := Lib.hid (((boxed w1 (.cells #[.int .i64 1, .int .i64 (-2), .int .i64 3] 3)).alloc (by simp) (.cells #[.int .i64 1] 3)).mono HB.out.size)
  clear hU hX
  go_wp2_with fail
  refine (unitsLaw_true (n := 3) (zss := threeL) (xs := [1]) (us := [1, -2, 3]) _ _ _ _ _ _ _ (by decide) (by decide) HA.out ((HG.out.alloc _).alloc _) HU.out HX.out (by decide) HRG.out (by intro x hx; simp at hx; subst hx; constructor <;> decide) HC.out HF.out rfl rfl rfl (by decide)).mono ?_
  rintro e w2 ⟨rfl, hB3⟩
  have HB3 := Lib.hid ((HB.out.trans HB2.out).trans (hB3.mono (by have := (HB.out.trans HB2.out).size; exact this)))
  clear hB3
  go_wp2
  go_ret
  exact ⟨rfl, HB3.out⟩

theorem has_any (a : Option Addr) (c : Nat) (xs : List Int) (x : Int) (w : World) (hm : xs.length ≤ maxLen) (h : IntsR w a xs) :
    Calls Try.prog 22 #[.slice a xs.length c, .int .i64 x] w fun e w' => e = .returned (.bool (decide (x ∈ xs))) ∧ w' = w := by
  have hmI : (xs.length : Int) ≤ 9223372036854775807 := by have : maxLen = 9223372036854775807 := rfl; omega
  have HX := Lib.hid h
  clear h hm
  go_enter Try.func22, Try.ntmps22
  go_wp2
  go_loopw [5] (fun i wr => ∃ k : Nat, i = .int .i64 k ∧ k ≤ xs.length ∧ wr = w ∧ Hid (∀ j, j < k → xs[j]? ≠ some x)) (fun i _ => xs.length - (intOf i).toNat)
  case atStart => exact ⟨0, rfl, Nat.zero_le _, rfl, fun j hj => by omega⟩
  case round =>
    obtain ⟨k, rfl, hk, rfl, HS⟩ := hrel
    by_cases hlt : k < xs.length
    · obtain ⟨b, off, y, rfl, hy, hcy⟩ := HX.out.at hlt
      by_cases hyx : y = x
      · subst hyx
        have HD : Hid (decide (y ∈ xs) = true) := by unfold Hid; exact decide_eq_true (List.mem_of_getElem? hy.out)
        have e1 : (y == y) = true := by simp
        go_wp2
        go_ret
        exact ⟨ret_bool HD.out.symm, rfl⟩
      · have HS2 : Hid (∀ j, j < k + 1 → xs[j]? ≠ some x) := fun j hj => by
          by_cases e : j = k
          · subst e; rw [hy.out]; intro e; exact hyx (Option.some.inj e)
          · exact HS.out j (by omega)
        have e1 : (y == x) = false := by simp [hyx]
        clear hyx
        go_wp2
        go_roundw
        case rel => exact ⟨k + 1, by go_num, by omega, trivial, HS2⟩
        case measure => simp [intOf]; omega
    · have HD : Hid (decide (x ∈ xs) = false) := by
        refine decide_eq_false fun h => ?_
        obtain ⟨j, hj⟩ := List.mem_iff_getElem?.1 h
        exact HS.out j (by have := (List.getElem?_eq_some_iff.1 hj).1; omega) hj
      go_wp2
      go_ret
      exact ⟨ret_bool HD.out.symm, rfl⟩
end Go.Proofs.Ytjpjhpokimdblaa
