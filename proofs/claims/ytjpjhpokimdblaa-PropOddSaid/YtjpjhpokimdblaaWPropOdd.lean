/-
  PropOdd: formulas that are not valid are refused as the reference refuses them.
-/
import Derived.Test.YtjpjhpokimdblaaWPropUnits
namespace Go.Proofs.Ytjpjhpokimdblaa
open Go.RowKit Go.Lib
open Go.RowKit (Below)

set_option maxHeartbeats 1000000 in
theorem units_bad {n : Int} {zss : List (List Int)} {xs : List Int} (a : Option Addr) (c : Nat) (xa : Option Addr) (xc : Nat) (w : World) (hm : zss.length ≤ maxLen) (hA : AllLen zss) (hR : RowsR .i64 w a zss) (hX : IntsR w xa xs) (hxl : xs.length ≤ maxLen) (hr : checkF n zss = 3) :
    Calls Try.prog 13 #[.agg #[.int .i64 n, .slice a zss.length c], .slice xa xs.length xc] w fun e w' => e = .returned (.tuple #[.slice none 0 0, .bool false, .int .i64 3]) ∧ Below w.heap.size w w' := by
  have h0 := Lib.hid (box0 w (.int .i64 n) (.slice a zss.length c) 26)
  have h1 := Lib.hid (box1 w (.int .i64 n) (.slice a zss.length c) 26)
  have hp : checkP n zss xs = 3 := by unfold checkP; rw [hr, if_pos (by decide)]
  have HPC := Lib.hid (fun (W : World) (h1 : RowsR .i64 W a zss) (h2 : IntsR W xa xs) => pcheck_any (n := n) a c xa xc W hm hA h1 h2 hxl)
  rw [hp] at HPC
  have HR := Lib.hid hR
  have HX := Lib.hid hX
  clear hm hA hR hX hxl hr hp
  go_enter Try.func13, Try.ntmps13
  go_wp2_with fail
  refine (HPC.out _ (HR.out.alloc _) (HX.out.alloc _)).mono ?_
  rintro e w2 ⟨rfl, hB⟩
  have HB2 := Lib.hid ((boxed w (.cells #[.int .i64 n, .slice a zss.length c] 26)).trans (hB.mono (by simp)))
  clear hB
  go_wp2
  refine bodyPost_ret (v := .tuple #[.slice none 0 0, .bool false, .int .i64 3]) (by simp [results, Try.results13, go_sem]) rfl ?_
  exact ⟨rfl, HB2.out⟩
set_option maxHeartbeats 1000000 in
theorem refUnits_bad {n : Int} {zss : List (List Int)} {xs : List Int} (a : Option Addr) (c : Nat) (xa : Option Addr) (xc : Nat) (w : World) (hm : zss.length ≤ maxLen) (hA : AllLen zss) (hR : RowsR .i64 w a zss) (hr : checkF n zss = 3) :
    Calls Try.prog 15 #[.agg #[.int .i64 n, .slice a zss.length c], .slice xa xs.length xc] w fun e w' => e = .returned (.tuple #[.slice none 0 0, .bool false, .int .i64 3]) ∧ Below w.heap.size w w' := by
  have h0 := Lib.hid (box0 w (.int .i64 n) (.slice a zss.length c) 26)
  have h1 := Lib.hid (box1 w (.int .i64 n) (.slice a zss.length c) 26)
  have HC := Lib.hid (fun (W : World) (h1 : RowsR .i64 W a zss) => refCheckF_is rfl hr a c W hm hA h1)
  have HR := Lib.hid hR
  clear hm hA hR hr
  have c0 := h0.out
  have c1 := h1.out
  go_enter Try.func15, Try.ntmps15
  go_wp2_with fail
  refine (HC.out _ (HR.out.alloc _)).mono ?_
  rintro e w2 ⟨rfl, hB⟩
  have HB2 := Lib.hid ((boxed w (.cells #[.int .i64 n, .slice a zss.length c] 26)).trans (hB.mono (by simp)))
  clear hB c0 c1
  go_wp2
  refine bodyPost_ret (v := .tuple #[.slice none 0 0, .bool false, .int .i64 3]) (by simp [results, Try.results15, go_sem]) rfl ?_
  exact ⟨rfl, HB2.out⟩

/-- Both answer, and with the same. -/
def Says (P : List Int → Bool → Int → Prop) (w : World) (e : Ending) (w' : World) : Prop := Below w.heap.size w w' ∧ ∃ ua uc u ff er, e = .returned (.tuple #[.slice ua u.length uc, .bool ff, .int .i64 er]) ∧ IntsR w' ua u ∧ u.length ≤ 500 ∧ P u ff er
theorem odd_both {n : Int} (hn : n ≤ 500) {zss : List (List Int)} {xs : List Int} (hm : zss.length ≤ maxLen) (hA : AllLen zss) (hz : ∀ z ∈ zss, ∀ x ∈ z, Rng x) (hx : ∀ x ∈ xs, Rng x) (hxl : xs.length ≤ maxLen) (a : Option Addr) (c : Nat) (xa : Option Addr) (xc : Nat) :
    ∃ P : List Int → Bool → Int → Prop, (∀ u ff er v gg fr, P u ff er → P v gg fr → v = u ∧ gg = ff ∧ fr = er) ∧
      (∀ w, RowsR .i64 w a zss → IntsR w xa xs → Calls Try.prog 13 #[.agg #[.int .i64 n, .slice a zss.length c], .slice xa xs.length xc] w (Says P w)) ∧
      (∀ w, RowsR .i64 w a zss → IntsR w xa xs → Calls Try.prog 15 #[.agg #[.int .i64 n, .slice a zss.length c], .slice xa xs.length xc] w (Says P w)) := by
  by_cases h0 : n < 0
  · have hr : checkF n zss = 3 := checkF_out (.inl h0)
    refine ⟨fun u ff er => u = [] ∧ ff = false ∧ er = 3, ?_, fun w hR hX => ?_, fun w hR hX => ?_⟩
    · rintro u ff er v gg fr ⟨rfl, rfl, rfl⟩ ⟨rfl, rfl, rfl⟩; exact ⟨rfl, rfl, rfl⟩
    · refine (units_bad a c xa xc w hm hA hR hX hxl hr).mono ?_
      rintro e w' ⟨rfl, hB⟩
      exact ⟨hB, none, 0, [], false, 3, rfl, .inl rfl, Nat.zero_le _, rfl, rfl, rfl⟩
    · refine (refUnits_bad a c xa xc w hm hA hR hr).mono ?_
      rintro e w' ⟨rfl, hB⟩
      exact ⟨hB, none, 0, [], false, 3, rfl, .inl rfl, Nat.zero_le _, rfl, rfl, rfl⟩
  · obtain ⟨N, rfl⟩ : ∃ N : Nat, n = (N : Int) := ⟨n.toNat, by omega⟩
    refine ⟨AnyRes N zss xs, fun u ff er v gg fr h1 h2 => h1.same h2, fun w hR hX => ?_, fun w hR hX => ?_⟩
    · refine (units_any a c xa xc w (by omega) hm hA hR hX hxl hz hx).mono fun e w' h => ?_
      obtain ⟨hb, ua, uc, u, ff, er, he, h1, h2, h3⟩ := anyRes h
      exact ⟨hb, ua, uc, u, ff, er, he, h1, by omega, h3⟩
    · refine (refUnits_any a c xa xc w (by omega) hm hA hR hX hxl hz hx).mono fun e w' h => ?_
      obtain ⟨hb, ua, uc, u, ff, er, he, h1, h2, h3⟩ := anyRes h
      exact ⟨hb, ua, uc, u, ff, er, he, h1, by omega, h3⟩

set_option maxRecDepth 100000 in
set_option maxHeartbeats 4000000 in
theorem propOdd_walk (w : World) (n : Int) (_ : (Lit.int .i64 n).wf = true) (a : Option Addr) (c : Nat) (zss : List (List Int)) (hR : RowsR .i64 w a zss) (hA : AllLen zss) (hm : zss.length ≤ maxLen) (hzw : ∀ z ∈ zss, ∀ n ∈ z, (Lit.int .i64 n).wf = true)
    (b : Option Addr) (d : Nat) (xs : List Int) (hQ : IntsR w b xs) (hqw : ∀ n ∈ xs, (Lit.int .i64 n).wf = true) (hqm : xs.length ≤ maxLen) :
    Calls Try.prog 4 #[.agg #[.int .i64 n, .slice a zss.length c], .slice b xs.length d] w fun e w' => e = .returned (.bool true) ∧ Below w.heap.size w w' := by
  have HA := Lib.hid hA
  have HR := Lib.hid (hR.alloc (.cells #[.int .i64 n, .slice a zss.length c] 26))
  have HX := Lib.hid (hQ.below (boxed w (.cells #[.int .i64 n, .slice a zss.length c] 26)))
  have HB := Lib.hid (boxed w (.cells #[.int .i64 n, .slice a zss.length c] 26))
  have HT := Lib.hid (Two.new w (.int .i64 n) (.slice a zss.length c))
  have HM := Lib.hid hm
  have HBOTH : Hid (n ≤ 500 → _) := fun h => odd_both (n := n) h (zss := zss) (xs := xs) hm hA (fun z hz x hx => i64_rng (hzw z hz x hx)) (fun x hx => i64_rng (hqw x hx)) hqm a c b d
  clear hR hA hm hzw hQ hqw hqm
  obtain ⟨s, hs⟩ : ∃ s, smallB zss = s := ⟨_, rfl⟩
  have HS := Lib.hid hs
  clear hs
  go_enter Try.func4, Try.ntmps4
  have c0 := HT.out.c0
  have c1 := HT.out.c1
  go_wp2_with fail
  refine (small_is rfl HS.out _ _ _ _ HM.out HA.out HR.out).mono ?_
  rintro e w1 ⟨rfl, hB1⟩
  have HT1 : Hid (Two w1 w.heap.size (.int .i64 n) (.slice a zss.length c)) := HT.out.below hB1 (by simp)
  have HR1 := Lib.hid (HR.out.below hB1)
  have HX1 := Lib.hid (HX.out.below hB1)
  have HB1 := Lib.hid (HB.out.trans (hB1.mono (by simp)))
  have hg1 : w.heap.size < w1.heap.size := HT1.out.lt
  clear hB1 c0 c1
  have c0 := HT1.out.c0
  have c1 := HT1.out.c1
  have hcase : s = false ∨ (s = true ∧ (20 : Int) < (xs.length : Int)) ∨ (s = true ∧ ¬ (20 : Int) < (xs.length : Int) ∧ 500 < n) ∨ (s = true ∧ ¬ (20 : Int) < (xs.length : Int) ∧ n ≤ 500) := by
    cases s
    · exact .inl rfl
    · by_cases h1 : (20 : Int) < (xs.length : Int)
      · exact .inr (.inl ⟨rfl, h1⟩)
      · by_cases h2 : 500 < n
        · exact .inr (.inr (.inl ⟨rfl, h1, h2⟩))
        · exact .inr (.inr (.inr ⟨rfl, h1, by omega⟩))
  rcases hcase with rfl | ⟨rfl, h1⟩ | ⟨rfl, h1, h2⟩ | ⟨rfl, h1, h2⟩
  case inr.inr.inr =>
    have h2' : ¬ 500 < n := by omega
    obtain ⟨P, hU, hP1, hP2⟩ := HBOTH.out h2
    have HU := Lib.hid hU
    have HP2 := Lib.hid hP2
    have HP1 := Lib.hid (hP1 w1 HR1.out HX1.out)
    clear hU hP1 hP2
    go_wp2_with fail
    refine HP1.out.mono ?_
    rintro e w2 ⟨hB2, ua, uc, u, ff, er, rfl, hu, hul, hp⟩
    have HT2 := Lib.hid (HT1.out.below hB2 hg1)
    have HX2 := Lib.hid (HX1.out.below hB2)
    have HR2 := Lib.hid (HR1.out.below hB2)
    have HB2 := Lib.hid (HB1.out.trans (hB2.mono HB1.out.size))
    have HUI := Lib.hid hu
    have HPP := Lib.hid hp
    have HQ2 := Lib.hid (HP2.out w2 HR2.out HX2.out)
    clear hB2 hu hp c0 c1
    have c0 := HT2.out.c0
    have c1 := HT2.out.c1
    go_wp2_with fail
    refine HQ2.out.mono ?_
    rintro e w3 ⟨hB3, ta, tc, v, gg, fr, rfl, hv, hvl, hq⟩
    obtain ⟨rfl, rfl, rfl⟩ := HU.out _ _ _ _ _ _ HPP.out hq
    have HU3 := Lib.hid (HUI.out.below hB3)
    have HV3 := Lib.hid hv
    have HB3 := Lib.hid (HB2.out.trans (hB3.mono HB2.out.size))
    have e1 : (gg == gg) = true := by simp
    have e2 : (fr == fr) = true := by simp
    clear hB3 hv hq c0 c1
    go_wp2_with fail
    refine (equal_is rfl rfl (show eqB v v = true from decide_eq_true rfl) _ _ _ _ _ (by unfold maxLen; omega) HU3.out HV3.out).mono ?_
    rintro e w6 ⟨rfl, hB6⟩
    have HB6 := Lib.hid (HB3.out.trans (hB6.mono HB3.out.size))
    clear hB6
    go_wp2_with fail
    refine (knownP_any _).mono ?_
    rintro e w7 ⟨rfl, hB7⟩
    have HB7 := Lib.hid (HB6.out.trans (hB7.mono HB6.out.size))
    clear hB7
    go_wp2
    go_ret
    exact ⟨rfl, HB7.out⟩
  all_goals
    go_wp2_with fail
    refine (knownP_any _).mono ?_
    rintro e w7 ⟨rfl, hB7⟩
    have HB7 := Lib.hid (HB1.out.trans (hB7.mono HB1.out.size))
    clear hB7
    go_wp2
    go_ret
    exact ⟨rfl, HB7.out⟩
end Go.Proofs.Ytjpjhpokimdblaa
