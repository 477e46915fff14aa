/-
  PropUnits: Units returns what the reference returns.
-/
import Derived.Test.YtjpjhpokimdblaaPropZ
import Derived.Deep.RegionHeld3
import Derived.Deep.DrawnRows
namespace Go.Proofs.Ytjpjhpokimdblaa
open Go.RowKit Go.Lib
open Go.RowKit (Below)
attribute [local go_sem ↓] Go.wp_at_zero Go.wp_at_succ

def AnyRes (n : Nat) (zss : List (List Int)) (xs u : List Int) (ff : Bool) (er : Int) : Prop :=
  (checkP n zss xs ≠ 0 ∧ u = [] ∧ ff = false ∧ er = checkP n zss xs) ∨ (checkP n zss xs = 0 ∧ Fails zss xs ∧ u = [] ∧ ff = true ∧ er = 0) ∨ (checkP n zss xs = 0 ∧ Follows n zss xs u ∧ ff = false ∧ er = 0)
theorem AnyRes.same {n : Nat} {zss : List (List Int)} {xs u v : List Int} {ff gg : Bool} {er fr : Int} (h1 : AnyRes n zss xs u ff er) (h2 : AnyRes n zss xs v gg fr) : v = u ∧ gg = ff ∧ fr = er := by
  rcases h1 with ⟨a1, rfl, rfl, rfl⟩ | ⟨a1, a2, rfl, rfl, rfl⟩ | ⟨a1, a2, rfl, rfl⟩ <;> rcases h2 with ⟨b1, rfl, rfl, rfl⟩ | ⟨b1, b2, rfl, rfl, rfl⟩ | ⟨b1, b2, rfl, rfl⟩
  · exact ⟨rfl, rfl, rfl⟩
  · exact absurd b1 a1
  · exact absurd b1 a1
  · exact absurd a1 b1
  · exact ⟨rfl, rfl, rfl⟩
  · exact absurd a2 b2.1
  · exact absurd a1 b1
  · exact absurd b2 a2.1
  · exact ⟨follows_unique b2 a2, rfl, rfl⟩
theorem anyRes {w w' : World} {n : Nat} {zss : List (List Int)} {xs : List Int} {e : Ending} (h : UnitsPost w n zss xs e w') : Below w.heap.size w w' ∧ ∃ ua uc u ff er, e = .returned (.tuple #[.slice ua u.length uc, .bool ff, .int .i64 er]) ∧ IntsR w' ua u ∧ u.length ≤ n ∧ AnyRes n zss xs u ff er := by
  obtain ⟨hB, h⟩ := h
  refine ⟨hB, ?_⟩
  rcases h with ⟨h, rfl⟩ | ⟨h0, h, rfl⟩ | ⟨h0, v, u, h, rfl, hO⟩
  · exact ⟨none, 0, [], false, _, rfl, .inl rfl, Nat.zero_le _, .inl ⟨h, rfl, rfl, rfl⟩⟩
  · exact ⟨none, 0, [], true, 0, rfl, .inl rfl, Nat.zero_le _, .inr (.inl ⟨h0, h, rfl, rfl, rfl⟩)⟩
  · obtain ⟨ua, uc, rfl, hU⟩ := hO.reads
    exact ⟨ua, uc, u, false, 0, rfl, hU, (follows_order h).2.2, .inr (.inr ⟨h0, h, rfl, rfl⟩)⟩
theorem i64_rng {x : Int} (h : (Lit.int .i64 x).wf = true) : Rng x := by
  unfold Lit.wf at h
  rw [Bool.and_eq_true, decide_eq_true_eq, decide_eq_true_eq] at h
  exact h

set_option maxRecDepth 100000 in
set_option maxHeartbeats 4000000 in
theorem propUnits_walk (w : World) (n : Int) (hn : (Lit.int .u8 n).wf = true) (a : Option Addr) (c : Nat) (zss : List (List Int)) (hR : RowsR .i8 w a zss) (hA : AllLen zss) (hm : zss.length ≤ maxLen) (hwf : ∀ z ∈ zss, ∀ x ∈ z, (Lit.int .i8 x).wf = true)
    (b : Option Addr) (d : Nat) (xs : List Int) (hQ : IntsR w b xs) (hqw : ∀ n ∈ xs, (Lit.int .i64 n).wf = true) (hqm : xs.length ≤ maxLen) :
    Calls Try.prog 3 #[.int .u8 n, .slice a zss.length c, .slice b xs.length d] w fun e w' => e = .returned (.bool true) ∧ Below w.heap.size w w' := by
  obtain ⟨hn0, hn1⟩ := u8_range hn
  obtain ⟨V, hV⟩ : ∃ V : Nat, 1 + n % 12 = (V : Int) := ⟨(1 + n % 12).toNat, by omega⟩
  have hV1 : 1 ≤ V := by omega
  have hV2 : V ≤ 12 := by omega
  have HF := Lib.hid (fit_any n V hn0 hn1 hV a c zss w hR hA hm hwf)
  have HQ := Lib.hid hQ
  have HXR : Hid (∀ x ∈ xs, Rng x) := fun x hx => i64_rng (hqw x hx)
  have HQM := Lib.hid hqm
  clear hV hR hA hm hwf hn hn0 hn1 hQ hqw hqm
  go_enter Try.func3, Try.ntmps3
  go_wp2_with fail
  refine HF.out.mono ?_
  rintro e w1 (⟨hf, rfl, hB1⟩ | ⟨hf, a1, c1, rfl, _, _, hR1, hB1⟩)
  · have HB1 := Lib.hid (hB1.alloc hB1.size (.cells #[.int .i64 0, .slice none 0 0] 26))
    clear hB1 hf
    go_wp2_with fail
    refine (knownP_any _).mono ?_
    rintro e w2 ⟨rfl, hB2⟩
    have HB2 := Lib.hid (HB1.out.trans (hB2.mono HB1.out.size))
    clear hB2
    go_wp2
    go_ret
    exact ⟨rfl, HB2.out⟩
  · have HL := Lib.hid (fitL_len (V : Int) zss)
    have HA := Lib.hid (fitL_all (V := V) hf)
    have HRG := Lib.hid (fit_rng (V := (V : Int)) (by omega) (by omega) zss)
    have hzl : zss.length ≤ 30 := (fitB_parts hf).1
    have HR1 := Lib.hid (hR1.alloc (.cells #[.int .i64 V, .slice a1 zss.length c1] 26))
    have HB1 := Lib.hid (hB1.alloc hB1.size (.cells #[.int .i64 V, .slice a1 zss.length c1] 26))
    have HT := Lib.hid (Two.new w1 (.int .i64 V) (.slice a1 zss.length c1))
    have HX1 := Lib.hid ((HQ.out.below (by exact hB1)).alloc (.cells #[.int .i64 V, .slice a1 zss.length c1] 26))
    generalize fitL (V : Int) zss = L at HL HA HRG HR1
    have hsA : w1.heap.size < (w1.alloc (.cells #[.int .i64 V, .slice a1 zss.length c1] 26)).heap.size := by simp
    clear hB1 hR1 hf HF HQ
    by_cases h20 : 20 < xs.length
    · have h20' : (20 : Int) < (xs.length : Int) := by omega
      go_wp2_with fail
      refine (knownP_any _).mono ?_
      rintro e w2 ⟨rfl, hB2⟩
      have HB2 := Lib.hid (HB1.out.trans (hB2.mono HB1.out.size))
      clear hB2
      go_wp2
      go_ret
      exact ⟨rfl, HB2.out⟩
    · have h20' : ¬ (20 : Int) < (xs.length : Int) := by omega
      go_wp2
      generalize w1.alloc (.cells #[.int .i64 V, .slice a1 zss.length c1] 26) = w2 at HR1 HB1 HT HX1 hsA ⊢
      have HH : Hid (∀ w', Hid (Below w2.heap.size w2 w') → w'.cell? ⟨w1.heap.size, 0, none⟩ = some (.int .i64 V) ∧ w'.cell? ⟨w1.heap.size, 1, none⟩ = some (.slice a1 zss.length c1) ∧ Hid (Below w2.heap.size w2 w')) := fun w' hb => ⟨(HT.out.below hb.out hsA).c0, (HT.out.below hb.out hsA).c1, hb⟩
      have HD : Hid (Below w2.heap.size w2 w2.drew) := (Below.refl _ _).drew
      have KC : Hid (∀ W, Hid (Below w2.heap.size w2 W) → Calls Try.prog 14 #[.slice b xs.length d] W fun e w' => ∃ ya yc, e = .returned (.slice ya xs.length yc) ∧ Hid (IntsR w' ya xs) ∧ Hid (Below w2.heap.size w2 w')) := fun W hW =>
        (copyInts_any b d xs W (by omega) (HX1.out.below hW.out)).mono fun e w' ⟨v, he, hO, hb⟩ => by
          obtain ⟨ya, yc, rfl, hI⟩ := hO.reads
          exact ⟨ya, yc, he, hI, hW.out.trans (hb.mono hW.out.size)⟩
      have KU : Hid (∀ W ya yc, Hid (Below w2.heap.size w2 W) → Hid (IntsR W ya xs) → Calls Try.prog 13 #[.agg #[.int .i64 V, .slice a1 zss.length c1], .slice ya xs.length yc] W fun e w' => ∃ ua uc u ff er, e = .returned (.tuple #[.slice ua u.length uc, .bool ff, .int .i64 er]) ∧ Hid (IntsR w' ua u) ∧ Hid (u.length ≤ V ∧ AnyRes V L xs u ff er) ∧ Hid (Below w2.heap.size w2 w')) := fun W ya yc hW hI => by
        rw [← HL.out]
        refine (units_any a1 c1 ya yc W (by omega) (by rw [HL.out]; unfold maxLen; omega) HA.out (HR1.out.below hW.out) hI.out HQM.out HRG.out HXR.out).mono fun e w' h => ?_
        obtain ⟨hb, ua, uc, u, ff, er, he, h1, h2, h3⟩ := anyRes h
        exact ⟨ua, uc, u, ff, er, he, h1, ⟨h2, h3⟩, hW.out.trans (hb.mono hW.out.size)⟩
      go_region_held3 (fun w' => w'.cell? ⟨w1.heap.size, 0, none⟩ = some (.int .i64 V) ∧ w'.cell? ⟨w1.heap.size, 1, none⟩ = some (.slice a1 zss.length c1) ∧ Hid (Below w2.heap.size w2 w')) (first | exact HH.out _ HD | exact HH.out _ (by assumption))
        (first | (go_at_call 14; refine (KC.out _ (by assumption)).mono ?_; rintro e w3 ⟨ya, yc, rfl, hy, hb⟩) | (go_at_call 13; refine (KU.out _ _ _ (by assumption) (by assumption)).mono ?_; rintro e w4 ⟨ua, uc, u, ff, er, rfl, hu, hres, hb4⟩))
      all_goals
        have HT4 := Lib.hid (HT.out.below hb4.out hsA)
        have c0 := HT4.out.c0
        have c1' := HT4.out.c1
        have HR4 := Lib.hid (HR1.out.below hb4.out)
        have HX4 := Lib.hid (HX1.out.below hb4.out)
        have HB4 := Lib.hid (HB1.out.trans (hb4.out.mono HB1.out.size))
        have HU4 := Lib.hid hu.out
        have HS4 := Lib.hid hres.out
        have HUN := Lib.hid (refUnits_any (n := V) (zss := L) (xs := xs) a1 c1 b d w4 (by omega) (by rw [HL.out]; unfold maxLen; omega) HA.out HR4.out HX4.out HQM.out HRG.out HXR.out)
        rw [HL.out] at HUN
        clear hb4 hu hres
        go_wp2_with fail
        refine HUN.out.mono ?_
        rintro e w5 hp
        obtain ⟨hB5, ta, tc, v, gg, fr, rfl, hT5, hvl, hres5⟩ := anyRes hp
        obtain ⟨rfl, rfl, rfl⟩ := HS4.out.2.same hres5
        have HU5 := Lib.hid (HU4.out.below hB5)
        have HV5 := Lib.hid hT5
        have HB5 := Lib.hid (HB4.out.trans (hB5.mono HB4.out.size))
        have e1 : (gg == gg) = true := by simp
        have e2 : (fr == fr) = true := by simp
        clear hp hB5 hT5 hres5 c0 c1'
        go_wp2_with fail
        refine (equal_is rfl rfl (show eqB v v = true from decide_eq_true rfl) _ _ _ _ _ (by unfold maxLen; omega) HU5.out HV5.out).mono ?_
        rintro e w6 ⟨rfl, hB6⟩
        have HB6 := Lib.hid (HB5.out.trans (hB6.mono HB5.out.size))
        clear hB6
        go_wp2_with fail
        refine (knownP_any _).mono ?_
        rintro e w7 ⟨rfl, hB7⟩
        have HB7 := Lib.hid (HB6.out.trans (hB7.mono HB6.out.size))
        clear hB7
        go_wp2
        go_ret
        exact ⟨rfl, HB7.out⟩
end Go.Proofs.Ytjpjhpokimdblaa
