/-
  RupChecks: Check returns what the reference returns.
-/
import Derived.Test.YtbljkbdbiceokaaRupQ
import Derived.Test.YtbljkbdbiceokaaCnfG
import Derived.Test.YtbljkbdbiceokaaCnfQ
namespace Go.Proofs.Ytbljkbdbiceokaa
open Go.RowKit Go.Lib
open Go.RowKit (Below)

theorem CheckPost.same {n : Int} {F P : List (List Int)} {v u r s : Int} (h : CheckPost n F P v r) (g : CheckPost n F P u s) : u = v ∧ s = r := by
  rcases h with ⟨h0, rfl, h1⟩ | ⟨h0, rfl, rfl⟩ <;> rcases g with ⟨g0, rfl, g1⟩ | ⟨g0, rfl, rfl⟩
  · exact ⟨g1.same h1, rfl⟩
  · exact absurd h0 g0
  · exact absurd g0 h0
  · exact ⟨rfl, rfl⟩
theorem i64_rng6 {x : Int} (h : (Lit.int .i64 x).wf = true) : Rng x := by
  unfold Lit.wf at h
  rw [Bool.and_eq_true, decide_eq_true_eq, decide_eq_true_eq] at h
  exact h

set_option maxRecDepth 100000 in
set_option maxHeartbeats 4000000 in
theorem rupChecks_walk (w : World) (n : Int) (hn : (Lit.int .u8 n).wf = true) (a : Option Addr) (c : Nat) (zss : List (List Int)) (hR : RowsR .i8 w a zss) (hA : AllLen zss) (hm : zss.length ≤ maxLen) (hwf : ∀ z ∈ zss, ∀ x ∈ z, (Lit.int .i8 x).wf = true)
    (b : Option Addr) (d : Nat) (P : List (List Int)) (hQ : RowsR .i64 w b P) (hQA : AllLen P) (hqm : P.length ≤ maxLen) (hqw : ∀ z ∈ P, ∀ x ∈ z, (Lit.int .i64 x).wf = true) :
    Calls Try.prog 4 #[.int .u8 n, .slice a zss.length c, .slice b P.length d] w fun e w' => e = .returned (.bool true) ∧ Below w.heap.size w w' := by
  obtain ⟨hn0, hn1⟩ := u8_range hn
  obtain ⟨V, hV⟩ : ∃ V : Nat, 1 + n % 12 = (V : Int) := ⟨(1 + n % 12).toNat, by omega⟩
  have hV1 : 1 ≤ V := by omega
  have hV2 : V ≤ 12 := by omega
  have HF := Lib.hid (fit_any n V hn0 hn1 hV a c zss w hR hA hm hwf)
  have HQ := Lib.hid hQ
  have HQA := Lib.hid hQA
  have HPR : Hid (∀ z ∈ P, ∀ x ∈ z, Rng x) := fun z hz x hx => i64_rng6 (hqw z hz x hx)
  have hmx : maxLen = 9223372036854775807 := rfl
  clear hV hR hA hm hwf hn hn0 hn1 hQ hqw hQA
  go_enter Try.func4, Try.ntmps4
  go_wp2_with fail
  refine HF.out.mono ?_
  rintro e w1 (⟨hf, rfl, hB1⟩ | ⟨hf, a1, c1, rfl, _, _, hR1, hB1⟩)
  · have HB1 := Lib.hid (hB1.alloc hB1.size (.cells #[.int .i64 0, .slice none 0 0] 26))
    clear hB1 hf
    go_wp2_with fail
    refine (knownR_any _).mono ?_
    rintro e w2 ⟨rfl, hB2⟩
    have HB2 := Lib.hid (HB1.out.trans (hB2.mono HB1.out.size))
    clear hB2
    go_wp2
    go_ret
    exact ⟨rfl, HB2.out⟩
  · have HL := Lib.hid (fit_ok hV1 hV2 hf)
    have HLl := Lib.hid (fitL_len (V : Int) zss)
    have hzl : zss.length ≤ 30 := (fitB_parts hf).1
    have HR1 := Lib.hid (hR1.alloc (.cells #[.int .i64 V, .slice a1 zss.length c1] 26))
    have HB1 := Lib.hid (hB1.alloc hB1.size (.cells #[.int .i64 V, .slice a1 zss.length c1] 26))
    have HT := Lib.hid (Two.new w1 (.int .i64 V) (.slice a1 zss.length c1))
    have HP1 := Lib.hid ((HQ.out.below hB1).alloc (.cells #[.int .i64 V, .slice a1 zss.length c1] 26))
    generalize fitL (V : Int) zss = L at HL HLl HR1
    have hsA : w1.heap.size < (w1.alloc (.cells #[.int .i64 V, .slice a1 zss.length c1] 26)).heap.size := by simp
    clear hB1 hR1 hf HF HQ
    by_cases h20 : 20 < P.length
    · have h20' : (20 : Int) < (P.length : Int) := by omega
      go_wp2_with fail
      refine (knownR_any _).mono ?_
      rintro e w2 ⟨rfl, hB2⟩
      have HB2 := Lib.hid (HB1.out.trans (hB2.mono HB1.out.size))
      clear hB2
      go_wp2
      go_ret
      exact ⟨rfl, HB2.out⟩
    · have h20' : ¬ (20 : Int) < (P.length : Int) := by omega
      go_wp2
      generalize w1.alloc (.cells #[.int .i64 V, .slice a1 zss.length c1] 26) = w2 at HR1 HB1 HT HP1 hsA ⊢
      have HLr : Hid (∀ z ∈ L, ∀ x ∈ z, Rng x) := fun z hz => (HL.out.2.2 z hz).rng hV2
      clear h20'
      go_loopw [9] (fun i wr => ∃ q : Nat, i = .int .i64 q ∧ q ≤ P.length ∧ wr = w2 ∧ Hid (∀ (j : Nat) (z : List Int), j < q → P[j]? = some z → z.length ≤ 20)) (fun i _ => P.length - (intOf i).toNat)
      case atStart => exact ⟨0, rfl, Nat.zero_le _, rfl, fun j z hj => absurd hj (Nat.not_lt_zero _)⟩
      case round =>
        obtain ⟨q, rfl, hq, hww, H20⟩ := hrel
        subst hww
        by_cases hlq : q < P.length
        · obtain ⟨bb, off, aj, cj, z, rfl, hbs, HZ, hc, HK⟩ := HP1.out.at hlq
          by_cases hz20 : 20 < z.length
          · have hz20' : (20 : Int) < (z.length : Int) := by omega
            go_wp2_with fail
            refine (knownR_any _).mono ?_
            rintro e w3 ⟨rfl, hB3⟩
            have HB3 := Lib.hid (HB1.out.trans (hB3.mono HB1.out.size))
            clear hB3
            go_wp2
            go_ret
            exact ⟨rfl, HB3.out⟩
          · have hz20' : ¬ (20 : Int) < (z.length : Int) := by omega
            have H21 : Hid (∀ (j : Nat) (y : List Int), j < q + 1 → P[j]? = some y → y.length ≤ 20) := fun j y hj hy => by
              by_cases e : j = q
              · subst e; rw [HZ.out] at hy; cases hy; omega
              · exact H20.out j y (by omega) hy
            go_wp2
            go_roundw
            case rel => exact ⟨q + 1, by go_num, by omega, trivial, H21⟩
            case measure => simp [intOf]; omega
        · have HPz : Hid (∀ z ∈ P, z.length ≤ 20) := fun z hz => by
            obtain ⟨j, hj⟩ := List.mem_iff_getElem?.1 hz
            exact H20.out j z (by have := (List.getElem?_eq_some_iff.1 hj).1; omega) hj
          obtain ⟨w2, rfl⟩ : ∃ w : World, w = wr := ⟨_, rfl⟩
          have HPA : Hid (AllLen P) := HQA
          clear H20
          go_wp2_with fail
          refine (copyLists_any b d P w2 (by omega) (fun z hz => by have := HPz.out z hz; omega) HP1.out).mono ?_
          rintro e w3 ⟨v3, rfl, hbt, hB3⟩
          obtain ⟨ia, ic, rfl, hic, _, _, hIR⟩ := hbt.rows
          have HI3 := Lib.hid hIR
          have HIC := Lib.hid hic
          have HT3 := Lib.hid (HT.out.below hB3 hsA)
          have HR3 := Lib.hid (HR1.out.below hB3)
          have HP3 := Lib.hid (HP1.out.below hB3)
          have HB3 := Lib.hid (HB1.out.trans (hB3.mono HB1.out.size))
          have hg3 : w1.heap.size < w3.heap.size := HT3.out.lt
          have hCK := rupCheck_any (n := V) (F := L) (P := P) a1 c1 ia ic w3 (by omega) (by rw [HLl.out]; omega) HL.out.all HR3.out HLr.out (by omega) HIC.out HPA.out HI3.out HPR.out
          rw [HLl.out] at hCK
          have HCK := Lib.hid hCK
          have c0 := HT3.out.c0
          have c1' := HT3.out.c1
          clear hB3 hbt hIR hic hCK HT HR1 HP1 HB1
          go_wp2_with fail
          refine HCK.out.mono ?_
          rintro e w4 ⟨hB4, v, r, rfl, hv⟩
          have HV := Lib.hid hv
          have HT4 := Lib.hid (HT3.out.below hB4 hg3)
          have HR4 := Lib.hid (HR3.out.below hB4)
          have HP4 := Lib.hid (HP3.out.below hB4)
          have HI4 := Lib.hid (HI3.out.below hB4)
          have HB4 := Lib.hid (HB3.out.trans (hB4.mono HB3.out.size))
          have hRC := refCheckP_any (n := V) (F := L) (P := P) a1 c1 b d w4 (by omega) (by rw [HLl.out]; omega) HL.out.all HR4.out HLr.out (by omega) HPA.out HP4.out HPR.out
          rw [HLl.out] at hRC
          have HRC := Lib.hid hRC
          clear hB4 hv hRC c0 c1' HCK
          have c0 := HT4.out.c0
          have c1' := HT4.out.c1
          go_wp2_with fail
          refine HRC.out.mono ?_
          rintro e w5 ⟨hB5, v', r', rfl, hv⟩
          obtain ⟨rfl, rfl⟩ := HV.out.same hv
          have HP5 := Lib.hid (HP4.out.below hB5)
          have HI5 := Lib.hid (HI4.out.below hB5)
          have HB5 := Lib.hid (HB4.out.trans (hB5.mono HB4.out.size))
          have e1 : (v' == v') = true := by simp
          have e2 : (r' == r') = true := by simp
          have HEL := Lib.hid (equalLists_any ia b ic d P P w5 hqm HPA.out HI5.out HP5.out)
          clear hB5 hv HV HRC c0 c1'
          go_wp2_with fail
          refine HEL.out.mono ?_
          rintro e w6 ⟨rfl, hQ6⟩
          have HB6 := Lib.hid (HB5.out.trans (quietBelow hQ6 _))
          have hel : eqL P P = true := by simp [eqL]
          rw [hel]
          clear hQ6 hel HEL
          go_wp2_with fail
          refine (knownR_any _).mono ?_
          rintro e w7 ⟨rfl, hB7⟩
          have HB7 := Lib.hid (HB6.out.trans (hB7.mono HB6.out.size))
          clear hB7
          go_wp2
          go_ret
          exact ⟨rfl, HB7.out⟩
end Go.Proofs.Ytbljkbdbiceokaa
