/-
  DimacsValid's walk.
-/
import Derived.Test.YtkannkalbhmlcaaDoorDimT
namespace Go.Proofs.YtkannkalbhmlcaaDoor
open Go.RowKit Go.Lib
open Go.RowKit (Below)

theorem count_take (l : List UInt8) (k : Nat) (h : k < l.length) : (l.take (k + 1)).count 10 = (l.take k).count 10 + (if l[k] = 10 then 1 else 0) := by
  rw [List.take_succ_eq_append_getElem h, List.count_append]
  congr 1
  by_cases e : l[k] = 10
  · rw [if_pos e, e]; rfl
  · rw [if_neg e]; simp [e]

set_option maxRecDepth 100000 in
set_option maxHeartbeats 4000000 in
theorem dimacsValid_walk (w : World) (s : ByteArray) (hsm : s.size ≤ maxLen) (he : Env w) :
    Calls Tryd.prog 7 #[.string s] w fun e w' => e = .returned (.bool true) ∧ Below w.heap.size w w' := by
  have HE := Lib.hid he
  clear he
  unfold maxLen at hsm
  by_cases hl : 2000 < s.size
  · have hd : (2000 : Int) < (s.size : Int) := by omega
    go_enter Tryd.func7, Tryd.ntmps7
    go_wp2_with fail
    refine (known_any _ HE.out).mono ?_
    rintro e w2 ⟨rfl, hB2⟩
    have HB2 := Lib.hid hB2
    clear hB2
    go_wp2
    go_ret
    exact ⟨rfl, HB2.out⟩
  have hd : ¬ (2000 : Int) < (s.size : Int) := by omega
  have hlen : (W8 s).length ≤ 2000 := by rw [w8_len]; omega
  rcases parse_valid (W8 s) hlen with ⟨n, e, he0, hn1, hn2, hp⟩ | ⟨v, L, hok, htl, hp⟩
  · have HP := Lib.hid hp
    have he1 : (e != 0) = true := by simpa using he0
    clear hp hl
    go_enter Tryd.func7, Tryd.ntmps7
    go_wp2_with fail
    refine (parse_is (o := ⟨0, [], n, e⟩) (l := 0) HP.out rfl _ (by omega) HE.out).mono ?_
    rintro e1 w1 ⟨a1, c1, rfl, hR1, hB1⟩
    have HB1 := Lib.hid (hB1.alloc hB1.size (.cells #[.int .i64 0, .slice a1 0 c1] 24))
    have HR1 := Lib.hid (hR1.alloc (.cells #[.int .i64 0, .slice a1 0 c1] 24))
    have HF1 := Lib.hid (Two.new w1 (.int .i64 0) (.slice a1 0 c1))
    clear hB1 hR1
    go_wp2_with fail
    go_loop [6, 7] (fun c i => ∃ k : Nat, k ≤ s.size ∧ i = .int .i64 k ∧ c = .int .i64 (1 + (((W8 s).take k).count 10 : Nat))) (fun _ i => s.size - (intOf i).toNat)
    case atStart => exact ⟨0, Nat.zero_le _, rfl, by simp⟩
    case round =>
      obtain ⟨k, hk, rfl, rfl⟩ := hrel
      have hcl : ((W8 s).take k).count 10 ≤ 2000 := by
        have h1 := List.count_le_length (a := (10 : UInt8)) (l := (W8 s).take k)
        rw [List.length_take] at h1; omega
      by_cases hlt : k < s.size
      · have hg : (W8 s)[k]'(by rw [w8_len]; exact hlt) = s[k] := rfl
        have hct := count_take (W8 s) k (by rw [w8_len]; exact hlt)
        rw [hg] at hct
        have h1 : (k : Int) < (s.size : Int) := by omega
        by_cases hb : ((s[k].toNat : Int) == 10) = true
        · have hct1 : ((W8 s).take (k + 1)).count 10 = ((W8 s).take k).count 10 + 1 := by
            rw [hct, if_pos]
            rw [beq_iff_eq] at hb
            exact UInt8.toNat_inj.1 (by have : (10 : UInt8).toNat = 10 := rfl; omega)
          have HX := Lib.hid hct1
          clear hct hg hct1
          go_wp2
          go_round
          case rel => exact ⟨k + 1, by omega, by go_num, by rw [HX.out]; congr 1 <;> (push_cast; omega)⟩
          case measure => simp [intOf]; omega
        · have hb : ((s[k].toNat : Int) == 10) = false := by simpa using hb
          have hct1 : ((W8 s).take (k + 1)).count 10 = ((W8 s).take k).count 10 := by
            rw [hct, if_neg]
            · rfl
            · intro e
              rw [beq_eq_false_iff_ne] at hb
              exact hb (by rw [e]; rfl)
          have HX := Lib.hid hct1
          clear hct hg hct1
          go_wp2
          go_round
          case rel => exact ⟨k + 1, by omega, by go_num, by rw [HX.out]⟩
          case measure => simp [intOf]; omega
      · obtain rfl : k = s.size := by omega
        have hall : ((W8 s).take s.size).count 10 = (W8 s).count 10 := by rw [List.take_of_length_le (by rw [w8_len]; exact Nat.le_refl _)]
        rw [hall] at hcl ⊢
        obtain ⟨C, hC⟩ : ∃ C : Nat, (W8 s).count 10 = C := ⟨_, rfl⟩
        rw [hC] at hcl hn2 ⊢
        have hn3 : (1 : Int) ≤ (n : Int) := by omega
        have hn4 : (n : Int) ≤ 1 + (C : Int) + 1 := by omega
        clear hall hC
        have h1 : ¬ ((s.size : Int) < (s.size : Int)) := by omega
        have q0 := HF1.out.c0
        have q1 := HF1.out.c1
        go_wp2_with fail
        refine (equalFormula_is (n := 0) (k := 0) (xs := []) (ys := []) (i := 0) (j := 0) rfl rfl (eqFm_refl 0 []) _ _ _ _ _ (by unfold maxLen; omega) (fun z hz => by cases hz) HR1.out (.inl rfl)).mono ?_
        rintro e2 w2 ⟨rfl, hB2⟩
        have HB2 := Lib.hid (HB1.out.trans (hB2.mono HB1.out.size))
        clear hB2 q0 q1
        go_wp2_with fail
        refine (known_any _ (HE.out.below HB2.out)).mono ?_
        rintro e2 w3 ⟨rfl, hB3⟩
        have HB3 := Lib.hid (HB2.out.trans (hB3.mono HB2.out.size))
        clear hB3
        go_wp2
        go_ret
        exact ⟨rfl, HB3.out⟩
  · have HP := Lib.hid hp
    obtain ⟨t, ht⟩ : ∃ t, str (formT v L) = t := ⟨_, rfl⟩
    have HT : Hid (formT v L = W8 t) := by unfold Hid; rw [← ht]; rfl
    have htz : t.size ≤ 65536 := by rw [← ht, str_size]; exact htl
    have HPt : Hid (parseB (W8 t) = ⟨v, L, 0, 0⟩) := by unfold Hid; rw [← ht]; exact parse_form hok htl
    have HC := Lib.hid (fmOk_check hok)
    have HI := Lib.hid (fmOk_i64 hok)
    have HA := Lib.hid (fmOk_all hok)
    have hLm : L.length ≤ 1048576 := hok.many
    have HTL := Lib.hid htl
    have hmm : L.length ≤ maxLen := by unfold maxLen; omega
    have HM := Lib.hid hmm
    clear hp hl ht htl hok hmm
    go_enter Tryd.func7, Tryd.ntmps7
    go_wp2_with fail
    refine (parse_is (o := ⟨v, L, 0, 0⟩) (l := L.length) HP.out rfl _ (by omega) HE.out).mono ?_
    rintro e1 w1 ⟨a1, c1, rfl, hR1, hB1⟩
    have HB1 := Lib.hid (hB1.alloc hB1.size (.cells #[.int .i64 v, .slice a1 L.length c1] 24))
    have HR1 := Lib.hid (hR1.alloc (.cells #[.int .i64 v, .slice a1 L.length c1] 24))
    have HF1 := Lib.hid (Two.new w1 (.int .i64 v) (.slice a1 L.length c1))
    clear hB1 hR1
    have q0 := HF1.out.c0
    have q1 := HF1.out.c1
    go_wp2_with fail
    refine (format_is (zss := L) rfl HT.out HC.out HTL.out _ _ _ HM.out HA.out HI.out HR1.out (HE.out.below HB1.out)).mono ?_
    rintro e1 w2 ⟨rfl, hB2⟩
    have HB2 := Lib.hid (HB1.out.trans (hB2.mono HB1.out.size))
    have HR2 := Lib.hid (HR1.out.below hB2)
    have HF2 := Lib.hid (HF1.out.below hB2 HF1.out.lt)
    clear hB2 q0 q1 HB1 HR1 HF1
    go_wp2_with fail
    refine (parse_is (o := ⟨v, L, 0, 0⟩) (l := L.length) HPt.out rfl _ (by omega) (HE.out.below HB2.out)).mono ?_
    rintro e1 w3 ⟨a3, c3, rfl, hR3, hB3⟩
    have HB3 := Lib.hid ((HB2.out.trans (hB3.mono HB2.out.size)).alloc (Nat.le_trans HB2.out.size hB3.size) (.cells #[.int .i64 v, .slice a3 L.length c3] 24))
    have HS3 := Lib.hid (hR3.alloc (.cells #[.int .i64 v, .slice a3 L.length c3] 24))
    have HR3 := Lib.hid ((HR2.out.below hB3).alloc (.cells #[.int .i64 v, .slice a3 L.length c3] 24))
    have HG3 := Lib.hid (Two.new w3 (.int .i64 v) (.slice a3 L.length c3))
    have HF3 := Lib.hid ((HF2.out.below hB3 HF2.out.lt).alloc (.cells #[.int .i64 v, .slice a3 L.length c3] 24))
    have hz3 : w1.heap.size < w3.heap.size := Nat.lt_of_lt_of_le HF2.out.lt hB3.size
    clear hB3 hR3 HB2 HR2 HF2
    have q0 := HF3.out.c0
    have q1 := HF3.out.c1
    have r0 := HG3.out.c0
    have r1 := HG3.out.c1
    go_wp2_with fail
    refine (checkF_is (zss := L) rfl HC.out _ _ _ HM.out HA.out HR3.out).mono ?_
    rintro e1 w4 ⟨rfl, hB4⟩
    have HB4 := Lib.hid (HB3.out.trans (hB4.mono HB3.out.size))
    have HR4 := Lib.hid (HR3.out.below hB4)
    have HS4 := Lib.hid (HS3.out.below hB4)
    have HF4 := Lib.hid (HF3.out.below hB4 HF3.out.lt)
    have HG4 := Lib.hid (HG3.out.below hB4 HG3.out.lt)
    have hz4 : w3.heap.size < w4.heap.size := HG4.out.lt
    clear hB4 q0 q1 r0 r1 HB3 HR3 HS3 HF3 HG3
    have q0 := HF4.out.c0
    have q1 := HF4.out.c1
    have r0 := HG4.out.c0
    have r1 := HG4.out.c1
    go_wp2_with fail
    refine (equalFormula_is (n := v) (k := v) (xs := L) (ys := L) rfl rfl (eqFm_refl v L) _ _ _ _ _ HM.out HA.out HR4.out HS4.out).mono ?_
    rintro e2 w5 ⟨rfl, hB5⟩
    have HB5 := Lib.hid (HB4.out.trans (hB5.mono HB4.out.size))
    clear hB5 q0 q1 r0 r1 HB4
    go_wp2_with fail
    refine (known_any _ (HE.out.below HB5.out)).mono ?_
    rintro e2 w6 ⟨rfl, hB6⟩
    have HB6 := Lib.hid (HB5.out.trans (hB6.mono HB5.out.size))
    clear hB6
    go_wp2
    go_ret
    exact ⟨rfl, HB6.out⟩
end Go.Proofs.YtkannkalbhmlcaaDoor
