/-
  RupOdd: formulas that are not valid are refused as the reference refuses them.
-/
import Derived.Test.YtbljkbdbiceokaaRupQ
namespace Go.Proofs.Ytbljkbdbiceokaa
open Go.RowKit Go.Lib
open Go.RowKit (Below)

theorem ImplPost.same7 {n : Int} {F : List (List Int)} {z : List Int} {v u : Bool} {r s : Int} (h : ImplPost n F z v r) (g : ImplPost n F z u s) : u = v ∧ s = r := by
  rcases h with ⟨h0, rfl, h1⟩ | ⟨h0, rfl, rfl⟩ <;> rcases g with ⟨g0, rfl, g1⟩ | ⟨g0, rfl, rfl⟩
  · refine ⟨?_, rfl⟩
    cases v <;> cases u <;> simp_all
  · exact absurd h0 g0
  · exact absurd g0 h0
  · exact ⟨rfl, rfl⟩
theorem CheckPost.same7 {n : Int} {F P : List (List Int)} {v u r s : Int} (h : CheckPost n F P v r) (g : CheckPost n F P u s) : u = v ∧ s = r := by
  rcases h with ⟨h0, rfl, h1⟩ | ⟨h0, rfl, rfl⟩ <;> rcases g with ⟨g0, rfl, g1⟩ | ⟨g0, rfl, rfl⟩
  · exact ⟨g1.same h1, rfl⟩
  · exact absurd h0 g0
  · exact absurd g0 h0
  · exact ⟨rfl, rfl⟩
theorem i64_rng7 {x : Int} (h : (Lit.int .i64 x).wf = true) : Rng x := by
  unfold Lit.wf at h
  rw [Bool.and_eq_true, decide_eq_true_eq, decide_eq_true_eq] at h
  exact h
theorem dv_nat {n : Int} {F P : List (List Int)} (h : dv n F P = 0) : ∃ N : Nat, n = (N : Int) := by
  by_cases hn : n < 0 ∨ 1048576 < n
  · rw [dv_bad (by rw [checkF_out hn]; decide), checkF_out hn] at h; cases h
  · exact ⟨n.toNat, by omega⟩
theorem smallB_len7 {zss : List (List Int)} (h : smallB zss = true) : zss.length ≤ 60 := by
  unfold smallB at h
  rw [Bool.and_eq_true] at h
  exact of_decide_eq_true h.2

set_option maxRecDepth 100000 in
set_option maxHeartbeats 4000000 in
theorem checkInBad {n : Int} {F P : List (List Int)} {a : Option Addr} {c : Nat} {pa : Option Addr} {pc b0 b1 b2 : Nat} {W0 : World} (hd0 : dv n F P ≠ 0) (hFl : F.length ≤ maxLen) (hFA : AllLen F) (hF : RowsR .i64 W0 a F)
    (hPl : P.length ≤ 1048576) (hPc : P.length ≤ pc) (hPA : AllLen P) (hP : RowsR .i64 W0 pa P)
    (h00 : W0.cell? ⟨b0, 0, none⟩ = some (.int .i64 n)) (h01 : W0.cell? ⟨b0, 1, none⟩ = some (.slice a F.length c)) (h1 : W0.cell? ⟨b1, 0, none⟩ = some (.slice pa P.length pc)) :
    Calls Try.prog 38 #[.pointer (some ⟨b0, 0, none⟩), .pointer (some ⟨b1, 0, none⟩), .pointer (some ⟨b2, 0, none⟩)] W0 (InPost W0 b2 n F P) := by
  have HDV := Lib.hid (demandValid_any n a c pa pc W0 hFl hFA hF hPl hPc hPA hP)
  have HD0 := Lib.hid hd0
  clear hFA hF hPA hP hFl hPl hPc hd0
  go_enter Try.func38, Try.ntmps38
  go_wp2_with fail
  refine HDV.out.mono ?_
  rintro e w1 ⟨hB1, (⟨hd, rfl⟩ | ⟨hd, rfl⟩)⟩
  · exact absurd hd HD0.out
  · have HFIN : Hid (InPost W0 b2 n F P (.panicked (panicE (dv n F P))) w1) := .inr ⟨hd, rfl, hB1⟩
    exact ⟨rfl, HFIN.out⟩
set_option maxRecDepth 100000 in
set_option maxHeartbeats 4000000 in
theorem impliedInBad {n : Int} {F : List (List Int)} {z : List Int} {a : Option Addr} {c : Nat} {za : Option Addr} {zc b0 b1 b2 : Nat} {W0 : World} (hd0 : dv n F [z] ≠ 0) (hFl : F.length ≤ maxLen) (hFA : AllLen F) (hF : RowsR .i64 W0 a F)
    (hzc : z.length ≤ zc) (hzm : zc ≤ maxLen) (hz : IntsR W0 za z)
    (h00 : W0.cell? ⟨b0, 0, none⟩ = some (.int .i64 n)) (h01 : W0.cell? ⟨b0, 1, none⟩ = some (.slice a F.length c)) (h1 : W0.cell? ⟨b1, 0, none⟩ = some (.slice za z.length zc)) :
    Calls Try.prog 30 #[.pointer (some ⟨b0, 0, none⟩), .pointer (some ⟨b1, 0, none⟩), .pointer (some ⟨b2, 0, none⟩)] W0 (ImpIn W0 b2 n F z) := by
  obtain ⟨Wa, hWa⟩ : ∃ Wa, W0.alloc (.cells #[.slice za z.length zc] 23) = Wa := ⟨_, rfl⟩
  have hBA : Below W0.heap.size W0 Wa := by rw [← hWa]; exact boxed W0 _
  have hRo : RowsR .i64 Wa (some ⟨W0.heap.size, 0, none⟩) [z] := by rw [← hWa]; exact rowsOne hz hzc hzm _
  have HDV := Lib.hid (demandValid_any n (P := [z]) a c (some ⟨W0.heap.size, 0, none⟩) 1 Wa hFl hFA (hF.below hBA) (by simp) (by simp) (fun y hy => by rw [List.mem_singleton] at hy; subst hy; omega) hRo)
  have HD0 := Lib.hid hd0
  have HBA := Lib.hid hBA
  clear hFA hF hFl hRo hBA hz hzm hzc hd0
  go_enter Try.func30, Try.ntmps30
  go_wp2_with fail
  refine HDV.out.mono ?_
  rintro e w1 ⟨hB1, (⟨hd, rfl⟩ | ⟨hd, rfl⟩)⟩
  · exact absurd hd HD0.out
  · have HFIN : Hid (ImpIn W0 b2 n F z (.panicked (panicE (dv n F [z]))) w1) := .inr ⟨hd, rfl, HBA.out.trans (hB1.mono HBA.out.size)⟩
    exact ⟨rfl, HFIN.out⟩
theorem rupCheckI {n : Int} {F P : List (List Int)} (a : Option Addr) (c : Nat) (pa : Option Addr) (pc : Nat) (w : World) (hn : n ≤ 1000000) (hFl : F.length ≤ maxLen) (hFA : AllLen F) (hF : RowsR .i64 w a F) (hFr : ∀ z ∈ F, ∀ x ∈ z, Rng x)
    (hPl : P.length ≤ 1048576) (hPc : P.length ≤ pc) (hPA : AllLen P) (hP : RowsR .i64 w pa P) (hPr : ∀ z ∈ P, ∀ x ∈ z, Rng x) :
    Calls Try.prog 18 #[.agg #[.int .i64 n, .slice a F.length c], .slice pa P.length pc] w fun e w' => Below w.heap.size w w' ∧ ∃ v r, e = .returned (.tuple #[.int .i64 v, .int .i64 r]) ∧ CheckPost n F P v r := by
  by_cases h : dv n F P = 0
  · obtain ⟨N, rfl⟩ := dv_nat h
    exact rupCheck_any a c pa pc w (by omega) hFl hFA hF hFr hPl hPc hPA hP hPr
  · exact check_run fun _ _ _ _ hB h00 h01 h1 _ _ _ => checkInBad h hFl hFA (hF.below hB) hPl hPc hPA (hP.below hB) h00 h01 h1
theorem rupImpliedI {n : Int} {F : List (List Int)} {z : List Int} (a : Option Addr) (c : Nat) (za : Option Addr) (zc : Nat) (w : World) (hn : n ≤ 1000000) (hFl : F.length ≤ maxLen) (hFA : AllLen F) (hF : RowsR .i64 w a F) (hFr : ∀ z ∈ F, ∀ x ∈ z, Rng x)
    (hzc : z.length ≤ zc) (hzm : zc ≤ maxLen) (hz : IntsR w za z) (hzr : ∀ x ∈ z, Rng x) :
    Calls Try.prog 14 #[.agg #[.int .i64 n, .slice a F.length c], .slice za z.length zc] w fun e w' => Below w.heap.size w w' ∧ ∃ (v : Bool) (r : Int), e = .returned (.tuple #[.bool v, .int .i64 r]) ∧ ImplPost n F z v r := by
  by_cases h : dv n F [z] = 0
  · obtain ⟨N, rfl⟩ := dv_nat h
    exact rupImplied_any a c za zc w (by omega) hFl hFA hF hFr hzc hzm hz hzr
  · exact implied_run fun _ _ _ _ hB h00 h01 h1 _ _ _ => impliedInBad h hFl hFA (hF.below hB) hzc hzm (hz.below hB) h00 h01 h1

set_option maxRecDepth 100000 in
set_option maxHeartbeats 8000000 in
theorem rupOdd_walk (w : World) (n : Int) (_ : (Lit.int .i64 n).wf = true) (a : Option Addr) (c : Nat) (zss : List (List Int)) (hR : RowsR .i64 w a zss) (hA : AllLen zss) (hm : zss.length ≤ maxLen) (hzw : ∀ z ∈ zss, ∀ n ∈ z, (Lit.int .i64 n).wf = true)
    (b : Option Addr) (d : Nat) (xs : List Int) (hQ : IntsR w b xs) (hqw : ∀ n ∈ xs, (Lit.int .i64 n).wf = true) (_ : xs.length ≤ maxLen) (hcc : xs.length ≤ d ∧ d ≤ maxLen) :
    Calls Try.prog 5 #[.agg #[.int .i64 n, .slice a zss.length c], .slice b xs.length d] w fun e w' => e = .returned (.bool true) ∧ Below w.heap.size w w' := by
  have HA := Lib.hid hA
  have HR := Lib.hid (hR.alloc (.cells #[.int .i64 n, .slice a zss.length c] 26))
  have HX := Lib.hid (hQ.below (boxed w (.cells #[.int .i64 n, .slice a zss.length c] 26)))
  have HB := Lib.hid (boxed w (.cells #[.int .i64 n, .slice a zss.length c] 26))
  have HT := Lib.hid (Two.new w (.int .i64 n) (.slice a zss.length c))
  have HM := Lib.hid hm
  have HZR : Hid (∀ z ∈ zss, ∀ x ∈ z, Rng x) := fun z hz x hx => i64_rng7 (hzw z hz x hx)
  have HXR : Hid (∀ x ∈ xs, Rng x) := fun x hx => i64_rng7 (hqw x hx)
  have HCC := Lib.hid hcc
  have hmx : maxLen = 9223372036854775807 := rfl
  clear hR hA hm hzw hQ hqw hcc
  obtain ⟨s, hs⟩ : ∃ s, smallB zss = s := ⟨_, rfl⟩
  have HS := Lib.hid hs
  clear hs
  go_enter Try.func5, Try.ntmps5
  have c0 := HT.out.c0
  have c1 := HT.out.c1
  go_wp2_with fail
  refine (small_is rfl HS.out _ _ _ _ HM.out HA.out HR.out).mono ?_
  rintro e w1 ⟨rfl, hB1⟩
  have HT1 : Hid (Two w1 w.heap.size (.int .i64 n) (.slice a zss.length c)) := HT.out.below hB1 (by simp)
  have HR1 := Lib.hid (HR.out.below hB1)
  have HX1 := Lib.hid (HX.out.below hB1)
  have HB1 := Lib.hid (HB.out.trans (hB1.mono (by simp)))
  have hg1 : w.heap.size < w1.heap.size := HT1.out.lt
  clear hB1 c0 c1 HT HR HX HB
  have c0 := HT1.out.c0
  have c1 := HT1.out.c1
  have hcase : s = false ∨ (s = true ∧ (20 : Int) < (xs.length : Int)) ∨ (s = true ∧ ¬ (20 : Int) < (xs.length : Int) ∧ 500 < n) ∨ (s = true ∧ ¬ (20 : Int) < (xs.length : Int) ∧ n ≤ 500) := by
    cases s
    · exact .inl rfl
    · by_cases h1 : (20 : Int) < (xs.length : Int)
      · exact .inr (.inl ⟨rfl, h1⟩)
      · by_cases h2 : 500 < n
        · exact .inr (.inr (.inl ⟨rfl, h1, h2⟩))
        · exact .inr (.inr (.inr ⟨rfl, h1, by omega⟩))
  rcases hcase with rfl | ⟨rfl, h1⟩ | ⟨rfl, h1, h2⟩ | ⟨rfl, h1, h2⟩
  case inr.inr.inr =>
    have h2' : ¬ 500 < n := by omega
    have hz60 := smallB_len7 HS.out
    have HI := Lib.hid (rupImpliedI (n := n) (F := zss) (z := xs) a c b d w1 (by omega) HM.out HA.out HR1.out HZR.out HCC.out.1 HCC.out.2 HX1.out HXR.out)
    go_wp2_with fail
    refine HI.out.mono ?_
    rintro e w2 ⟨hB2, v, r, rfl, hv⟩
    have HV := Lib.hid hv
    have HT2 := Lib.hid (HT1.out.below hB2 hg1)
    have HX2 := Lib.hid (HX1.out.below hB2)
    have HR2 := Lib.hid (HR1.out.below hB2)
    have HB2 := Lib.hid (HB1.out.trans (hB2.mono HB1.out.size))
    have hg2 : w.heap.size < w2.heap.size := HT2.out.lt
    clear hB2 hv HI c0 c1 HT1 HX1 HR1 HB1 hg1
    have c0 := HT2.out.c0
    have c1 := HT2.out.c1
    have HJ := Lib.hid (refImplied_any (n := n) (F := zss) (z := xs) a c b d w2 (by omega) HM.out HA.out HR2.out HZR.out (by omega) HX2.out HXR.out)
    go_wp2_with fail
    refine HJ.out.mono ?_
    rintro e w3 ⟨hB3, v', r', rfl, hv⟩
    obtain ⟨rfl, rfl⟩ := HV.out.same7 hv
    have HT3 := Lib.hid ((HT2.out.below hB3 hg2).alloc (.cells #[.slice b xs.length d] 23))
    have HX3 := Lib.hid ((HX2.out.below hB3).below (boxed w3 (.cells #[.slice b xs.length d] 23)))
    have HR3 := Lib.hid ((HR2.out.below hB3).alloc (.cells #[.slice b xs.length d] 23))
    have HB3 := Lib.hid ((HB2.out.trans (hB3.mono HB2.out.size)).alloc (Nat.le_trans HB2.out.size hB3.size) (.cells #[.slice b xs.length d] 23))
    have HPO : Hid (RowsR .i64 (w3.alloc (.cells #[.slice b xs.length d] 23)) (some ⟨w3.heap.size, 0, none⟩) [xs]) := rowsOne (HX2.out.below hB3) HCC.out.1 HCC.out.2 _
    have c0' := (HT2.out.below hB3 hg2).c0
    have c1' := (HT2.out.below hB3 hg2).c1
    have hg3 : w.heap.size < (w3.alloc (.cells #[.slice b xs.length d] 23)).heap.size := HT3.out.lt
    have HPA : Hid (AllLen [xs]) := fun y hy => by rw [List.mem_singleton] at hy; subst hy; omega
    have HPR : Hid (∀ z ∈ [xs], ∀ x ∈ z, Rng x) := fun y hy => by rw [List.mem_singleton] at hy; subst hy; exact HXR.out
    have HK := Lib.hid (rupCheckI (n := n) (F := zss) (P := [xs]) a c (some ⟨w3.heap.size, 0, none⟩) 1 _ (by omega) HM.out HA.out HR3.out HZR.out (by simp) (by simp) HPA.out HPO.out HPR.out)
    clear hB3 hv HV HJ c0 c1 HT2 HX2 HR2 HB2 hg2
    go_wp2_with fail
    refine HK.out.mono ?_
    rintro e w4 ⟨hB4, x, y, rfl, hx⟩
    have HXV := Lib.hid hx
    have HT4 := Lib.hid (HT3.out.below hB4 hg3)
    have HX4 := Lib.hid (HX3.out.below hB4)
    have HR4 := Lib.hid ((HR3.out.below hB4).alloc (.cells #[.slice b xs.length d] 23))
    have HB4 := Lib.hid ((HB3.out.trans (hB4.mono HB3.out.size)).alloc (Nat.le_trans HB3.out.size hB4.size) (.cells #[.slice b xs.length d] 23))
    have HPO4 : Hid (RowsR .i64 (w4.alloc (.cells #[.slice b xs.length d] 23)) (some ⟨w4.heap.size, 0, none⟩) [xs]) := rowsOne HX4.out HCC.out.1 HCC.out.2 _
    have HRK := Lib.hid (refCheckP_any (n := n) (F := zss) (P := [xs]) a c (some ⟨w4.heap.size, 0, none⟩) 1 _ (by omega) (by omega) HA.out HR4.out HZR.out (by simp) HPA.out HPO4.out HPR.out)
    clear hB4 hx HK c0' c1' HT3 HX3 HR3 HB3 HPO hg3
    have c0 := HT4.out.c0
    have c1 := HT4.out.c1
    go_wp2_with fail
    refine HRK.out.mono ?_
    rintro e w5 ⟨hB5, x', y', rfl, hx⟩
    obtain ⟨rfl, rfl⟩ := HXV.out.same7 hx
    have HB5 := Lib.hid (HB4.out.trans (hB5.mono HB4.out.size))
    have e1 : (v' == v') = true := by simp
    have e2 : (r' == r') = true := by simp
    have e3 : (x' == x') = true := by simp
    have e4 : (y' == y') = true := by simp
    clear hB5 hx HXV HRK c0 c1
    go_wp2_with fail
    refine (knownR_any _).mono ?_
    rintro e w7 ⟨rfl, hB7⟩
    have HB7 := Lib.hid (HB5.out.trans (hB7.mono HB5.out.size))
    clear hB7
    go_wp2
    go_ret
    exact ⟨rfl, HB7.out⟩
  all_goals
    go_wp2_with fail
    refine (knownR_any _).mono ?_
    rintro e w3 ⟨rfl, hB3⟩
    have HB3 := Lib.hid (HB1.out.trans (hB3.mono HB1.out.size))
    clear hB3
    go_wp2
    go_ret
    exact ⟨rfl, HB3.out⟩
end Go.Proofs.Ytbljkbdbiceokaa
