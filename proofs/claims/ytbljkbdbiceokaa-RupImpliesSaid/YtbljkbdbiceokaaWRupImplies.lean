/-
  RupImplies: Implied returns what the reference returns.
-/
import Derived.Test.YtbljkbdbiceokaaRupR
namespace Go.Proofs.Ytbljkbdbiceokaa
open Go.RowKit Go.Lib
open Go.RowKit (Below)

theorem ImplPost.same {n : Int} {F : List (List Int)} {z : List Int} {v u : Bool} {r s : Int} (h : ImplPost n F z v r) (g : ImplPost n F z u s) : u = v ∧ s = r := by
  rcases h with ⟨h0, rfl, h1⟩ | ⟨h0, rfl, rfl⟩ <;> rcases g with ⟨g0, rfl, g1⟩ | ⟨g0, rfl, rfl⟩
  · refine ⟨?_, rfl⟩
    cases v <;> cases u <;> simp_all
  · exact absurd h0 g0
  · exact absurd g0 h0
  · exact ⟨rfl, rfl⟩
theorem i64_rng5 {x : Int} (h : (Lit.int .i64 x).wf = true) : Rng x := by
  unfold Lit.wf at h
  rw [Bool.and_eq_true, decide_eq_true_eq, decide_eq_true_eq] at h
  exact h

set_option maxRecDepth 100000 in
set_option maxHeartbeats 4000000 in
theorem rupImplies_walk (w : World) (n : Int) (hn : (Lit.int .u8 n).wf = true) (a : Option Addr) (c : Nat) (zss : List (List Int)) (hR : RowsR .i8 w a zss) (hA : AllLen zss) (hm : zss.length ≤ maxLen) (hwf : ∀ z ∈ zss, ∀ x ∈ z, (Lit.int .i8 x).wf = true)
    (b : Option Addr) (d : Nat) (xs : List Int) (hQ : IntsR w b xs) (hqw : ∀ n ∈ xs, (Lit.int .i64 n).wf = true) (_ : xs.length ≤ maxLen) :
    Calls Try.prog 3 #[.int .u8 n, .slice a zss.length c, .slice b xs.length d] w fun e w' => e = .returned (.bool true) ∧ Below w.heap.size w w' := by
  obtain ⟨hn0, hn1⟩ := u8_range hn
  obtain ⟨V, hV⟩ : ∃ V : Nat, 1 + n % 12 = (V : Int) := ⟨(1 + n % 12).toNat, by omega⟩
  have hV1 : 1 ≤ V := by omega
  have hV2 : V ≤ 12 := by omega
  have HF := Lib.hid (fit_any n V hn0 hn1 hV a c zss w hR hA hm hwf)
  have HQ := Lib.hid hQ
  have HXR : Hid (∀ x ∈ xs, Rng x) := fun x hx => i64_rng5 (hqw x hx)
  have hmx : maxLen = 9223372036854775807 := rfl
  clear hV hR hA hm hwf hn hn0 hn1 hQ hqw
  go_enter Try.func3, Try.ntmps3
  go_wp2_with fail
  refine HF.out.mono ?_
  rintro e w1 (⟨hf, rfl, hB1⟩ | ⟨hf, a1, c1, rfl, _, _, hR1, hB1⟩)
  · have HB1 := Lib.hid (hB1.alloc hB1.size (.cells #[.int .i64 0, .slice none 0 0] 26))
    clear hB1 hf
    go_wp2_with fail
    refine (knownR_any _).mono ?_
    rintro e w2 ⟨rfl, hB2⟩
    have HB2 := Lib.hid (HB1.out.trans (hB2.mono HB1.out.size))
    clear hB2
    go_wp2
    go_ret
    exact ⟨rfl, HB2.out⟩
  · have HL := Lib.hid (fit_ok hV1 hV2 hf)
    have HLl := Lib.hid (fitL_len (V : Int) zss)
    have hzl : zss.length ≤ 30 := (fitB_parts hf).1
    have HR1 := Lib.hid (hR1.alloc (.cells #[.int .i64 V, .slice a1 zss.length c1] 26))
    have HB1 := Lib.hid (hB1.alloc hB1.size (.cells #[.int .i64 V, .slice a1 zss.length c1] 26))
    have HT := Lib.hid (Two.new w1 (.int .i64 V) (.slice a1 zss.length c1))
    have HX1 := Lib.hid ((HQ.out.below (by exact hB1)).alloc (.cells #[.int .i64 V, .slice a1 zss.length c1] 26))
    generalize fitL (V : Int) zss = L at HL HLl HR1
    have hsA : w1.heap.size < (w1.alloc (.cells #[.int .i64 V, .slice a1 zss.length c1] 26)).heap.size := by simp
    clear hB1 hR1 hf HF HQ
    by_cases h20 : 20 < xs.length
    · have h20' : (20 : Int) < (xs.length : Int) := by omega
      go_wp2_with fail
      refine (knownR_any _).mono ?_
      rintro e w2 ⟨rfl, hB2⟩
      have HB2 := Lib.hid (HB1.out.trans (hB2.mono HB1.out.size))
      clear hB2
      go_wp2
      go_ret
      exact ⟨rfl, HB2.out⟩
    · have h20' : ¬ (20 : Int) < (xs.length : Int) := by omega
      go_wp2
      generalize w1.alloc (.cells #[.int .i64 V, .slice a1 zss.length c1] 26) = w2 at HR1 HB1 HT HX1 hsA ⊢
      have HLr : Hid (∀ z ∈ L, ∀ x ∈ z, Rng x) := fun z hz => (HL.out.2.2 z hz).rng hV2
      have HH : Hid (∀ w', Hid (Below w2.heap.size w2 w') → w'.cell? ⟨w1.heap.size, 0, none⟩ = some (.int .i64 V) ∧ w'.cell? ⟨w1.heap.size, 1, none⟩ = some (.slice a1 zss.length c1) ∧ Hid (Below w2.heap.size w2 w')) := fun w' hb => ⟨(HT.out.below hb.out hsA).c0, (HT.out.below hb.out hsA).c1, hb⟩
      have HD : Hid (Below w2.heap.size w2 w2.drew) := (Below.refl _ _).drew
      have KC : Hid (∀ W, Hid (Below w2.heap.size w2 W) → Calls Try.prog 15 #[.slice b xs.length d] W fun e w' => ∃ ya yc, e = .returned (.slice ya xs.length yc) ∧ Hid (IntsR w' ya xs ∧ xs.length ≤ yc ∧ yc ≤ maxLen) ∧ Hid (Below w2.heap.size w2 w')) := fun W hW =>
        (copyInts_any b d xs W (by omega) (HX1.out.below hW.out)).mono fun e w' ⟨v, he, hO, hb⟩ => by
          obtain ⟨ya, yc, rfl, hI, _, h1, h2⟩ := hO.parts
          exact ⟨ya, yc, he, ⟨hI, h1, h2⟩, hW.out.trans (hb.mono hW.out.size)⟩
      have KU : Hid (∀ W ya yc, Hid (Below w2.heap.size w2 W) → Hid (IntsR W ya xs ∧ xs.length ≤ yc ∧ yc ≤ maxLen) → Calls Try.prog 14 #[.agg #[.int .i64 V, .slice a1 zss.length c1], .slice ya xs.length yc] W fun e w' => ∃ (v : Bool) (r : Int), e = .returned (.tuple #[.bool v, .int .i64 r]) ∧ Hid (ImplPost V L xs v r) ∧ Hid (Below w2.heap.size w2 w')) := fun W ya yc hW hI => by
        rw [← HLl.out]
        refine (rupImplied_any a1 c1 ya yc W (by omega) (by rw [HLl.out]; omega) HL.out.all (HR1.out.below hW.out) HLr.out hI.out.2.1 hI.out.2.2 hI.out.1 HXR.out).mono ?_
        rintro e w' ⟨hb, v, r, rfl, hv⟩
        exact ⟨v, r, rfl, hv, hW.out.trans (hb.mono hW.out.size)⟩
      go_cut [9, 10] from 28 to 33 (fun s9 s10 wc => ∃ v r, s9 = .bool v ∧ s10 = .int .i64 r ∧ Hid (ImplPost V L xs v r) ∧ Hid (Below w2.heap.size w2 wc))
      case first =>
        go_region_held3 (fun w' => w'.cell? ⟨w1.heap.size, 0, none⟩ = some (.int .i64 V) ∧ w'.cell? ⟨w1.heap.size, 1, none⟩ = some (.slice a1 zss.length c1) ∧ Hid (Below w2.heap.size w2 w')) (first | exact HH.out _ HD | exact HH.out _ (by assumption))
          (first | (go_at_call 15; refine (KC.out _ (by assumption)).mono ?_; rintro e w3 ⟨ya, yc, rfl, hy, hb⟩) | (go_at_call 14; refine (KU.out _ _ _ (by assumption) (by assumption)).mono ?_; rintro e w4 ⟨v, r, rfl, hv, hb4⟩))
        all_goals (go_wp2_with fail; go_meet; exact ⟨v, r, rfl, rfl, hv, hb4⟩)
      case rest =>
        obtain ⟨w4, rfl⟩ : ∃ w4 : World, w4 = wc := ⟨_, rfl⟩
        obtain ⟨v, r, rfl, rfl, HV, HB4⟩ := hcut
        have HT4 := Lib.hid (HT.out.below HB4.out hsA)
        have c0 := HT4.out.c0
        have c1' := HT4.out.c1
        have HR4 := Lib.hid (HR1.out.below HB4.out)
        have HX4 := Lib.hid (HX1.out.below HB4.out)
        have HB5 := Lib.hid (HB1.out.trans (HB4.out.mono HB1.out.size))
        have HUN := Lib.hid (refImplied_any (n := V) (F := L) (z := xs) a1 c1 b d w4 (by omega) (by rw [HLl.out]; omega) HL.out.all HR4.out HLr.out (by omega) HX4.out HXR.out)
        rw [HLl.out] at HUN
        clear HH HD KC KU
        go_wp2_with fail
        refine HUN.out.mono ?_
        rintro e w5 ⟨hB5, v', r', rfl, hv⟩
        obtain ⟨rfl, rfl⟩ := HV.out.same hv
        have HB6 := Lib.hid (HB5.out.trans (hB5.mono HB5.out.size))
        have e1 : (v' == v') = true := by simp
        have e2 : (r' == r') = true := by simp
        clear hB5 hv HV c0 c1'
        go_wp2_with fail
        refine (knownR_any _).mono ?_
        rintro e w7 ⟨rfl, hB7⟩
        have HB7 := Lib.hid (HB6.out.trans (hB7.mono HB6.out.size))
        clear hB7
        go_wp2
        go_ret
        exact ⟨rfl, HB7.out⟩
end Go.Proofs.Ytbljkbdbiceokaa
