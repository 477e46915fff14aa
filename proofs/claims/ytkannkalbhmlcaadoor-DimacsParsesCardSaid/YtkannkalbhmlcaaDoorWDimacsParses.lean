/-
  DimacsParses' walk.
-/
import Derived.Test.YtkannkalbhmlcaaDoorDimPr
import Derived.Test.YtkannkalbhmlcaaDoorDimQ
namespace Go.Proofs.YtkannkalbhmlcaaDoor
open Go.RowKit Go.Lib
open Go.RowKit (Below)

theorem parse_to {s : ByteArray} {o : Out} {L : List (List Int)} {V ln er : Int} {l : Nat} (ho : parseB (W8 s) = o) (hL : o.cls = L) (hV : o.vars = V) (hn : o.line = ln) (he' : o.err = er) (hl : L.length = l) (w : World) (hs : s.size ≤ 1048576) (he : Env w) :
    Calls Tryd.prog 15 #[.string s] w fun e w' => ∃ a c, e = .returned (.tuple #[.agg #[.int .i64 V, .slice a l c], .int .i64 ln, .int .i64 er]) ∧ RowsR .i64 w' a L ∧ Below w.heap.size w w' := by
  subst ho hL hV hn he' hl
  exact parse_any s w hs he
theorem refParse_to {s : ByteArray} {o : Out} {L : List (List Int)} {V ln er : Int} {l : Nat} (ho : parseB (W8 s) = o) (hL : o.cls = L) (hV : o.vars = V) (hn : o.line = ln) (he' : o.err = er) (hl : L.length = l) (w : World) (hs : s.size ≤ 1048576) :
    Calls Tryd.prog 16 #[.string s] w fun e w' => ∃ a c, e = .returned (.tuple #[.agg #[.int .i64 V, .slice a l c], .int .i64 ln, .int .i64 er]) ∧ RowsR .i64 w' a L ∧ Below w.heap.size w w' := by
  subst ho hL hV hn he' hl
  exact refParse_any s w hs
/-- What is parsed has clauses of no great length. -/
theorem parse_all (l : List UInt8) : AllLen (parseB l).cls ∧ (parseB l).cls.length ≤ maxLen := by
  have h0 : AllLen ([] : List (List Int)) ∧ ([] : List (List Int)).length ≤ maxLen := ⟨fun z hz => absurd hz (List.not_mem_nil), by unfold maxLen; simp⟩
  unfold parseB parseC
  split
  · exact h0
  · cases hr : runL 1048577 1 rd0 (linesW l) with
    | error p => exact h0
    | ok r =>
      simp only
      have hv := runL_val _ _ (rd0_val 0) hr
      unfold endR
      split
      · exact h0
      · exact ⟨fun z hz => by have := (hv.cls z hz).len; unfold maxLen; omega, by have := hv.many; have := hv.ann; unfold maxLen; simp only; omega⟩

set_option maxRecDepth 100000 in
set_option maxHeartbeats 4000000 in
theorem dimacsParses_walk (w : World) (s : ByteArray) (hsm : s.size ≤ maxLen) (he : Env w) :
    Calls Tryd.prog 4 #[.string s] w fun e w' => e = .returned (.bool true) ∧ Below w.heap.size w w' := by
  have HE := Lib.hid he
  clear he
  unfold maxLen at hsm
  by_cases hl : 3000 < s.size
  · have hd : (3000 : Int) < (s.size : Int) := by omega
    go_enter Tryd.func4, Tryd.ntmps4
    go_wp2_with fail
    refine (known_any _ HE.out).mono ?_
    rintro e w2 ⟨rfl, hB2⟩
    have HB2 := Lib.hid hB2
    clear hB2
    go_wp2
    go_ret
    exact ⟨rfl, HB2.out⟩
  have hd : ¬ (3000 : Int) < (s.size : Int) := by omega
  have hss : s.size ≤ 1048576 := by omega
  obtain ⟨o, ho⟩ : ∃ o, parseB (W8 s) = o := ⟨_, rfl⟩
  have hall := parse_all (W8 s)
  rw [ho] at hall
  obtain ⟨L, hL⟩ : ∃ L, o.cls = L := ⟨_, rfl⟩
  obtain ⟨V, hV⟩ : ∃ V, o.vars = V := ⟨_, rfl⟩
  obtain ⟨ln, hn⟩ : ∃ n, o.line = n := ⟨_, rfl⟩
  obtain ⟨er, her⟩ : ∃ n, o.err = n := ⟨_, rfl⟩
  rw [hL] at hall
  have HO := Lib.hid ho
  have HL := Lib.hid hL
  have HV := Lib.hid hV
  have HN := Lib.hid hn
  have HR := Lib.hid her
  have HA := Lib.hid hall.1
  have HM := Lib.hid hall.2
  have e1 : (ln == ln) = true := beq_iff_eq.2 rfl
  have e2 : (er == er) = true := beq_iff_eq.2 rfl
  clear ho hL hV hn her hall hl
  go_enter Tryd.func4, Tryd.ntmps4
  go_wp2_with fail
  refine (parse_to HO.out HL.out HV.out HN.out HR.out rfl _ hss HE.out).mono ?_
  rintro e w1 ⟨a1, c1, rfl, hR1, hB1⟩
  have HB1 := Lib.hid (hB1.alloc hB1.size (.cells #[.int .i64 V, .slice a1 L.length c1] 24))
  have HR1 := Lib.hid (hR1.alloc (.cells #[.int .i64 V, .slice a1 L.length c1] 24))
  have HF1 := Lib.hid (Two.new w1 (.int .i64 V) (.slice a1 L.length c1))
  clear hB1 hR1
  go_wp2_with fail
  refine (refParse_to HO.out HL.out HV.out HN.out HR.out rfl _ hss).mono ?_
  rintro e w3 ⟨a3, c3, rfl, hR3, hB3⟩
  have HB3 := Lib.hid ((HB1.out.trans (hB3.mono HB1.out.size)).alloc (Nat.le_trans HB1.out.size hB3.size) (.cells #[.int .i64 V, .slice a3 L.length c3] 24))
  have HS3 := Lib.hid (hR3.alloc (.cells #[.int .i64 V, .slice a3 L.length c3] 24))
  have HR3 := Lib.hid ((HR1.out.below hB3).alloc (.cells #[.int .i64 V, .slice a3 L.length c3] 24))
  have HG3 := Lib.hid (Two.new w3 (.int .i64 V) (.slice a3 L.length c3))
  have HF3 := Lib.hid ((HF1.out.below hB3 HF1.out.lt).alloc (.cells #[.int .i64 V, .slice a3 L.length c3] 24))
  have hz3 : w1.heap.size < w3.heap.size := Nat.lt_of_lt_of_le HF1.out.lt hB3.size
  clear hB3 hR3 HB1 HR1 HF1
  have q0 := HF3.out.c0
  have q1 := HF3.out.c1
  have r0 := HG3.out.c0
  have r1 := HG3.out.c1
  go_wp2_with fail
  refine (equalFormula_is (n := V) (k := V) (xs := L) (ys := L) rfl rfl (eqFm_refl V L) _ _ _ _ _ HM.out HA.out HR3.out HS3.out).mono ?_
  rintro e w5 ⟨rfl, hB5⟩
  have HB5 := Lib.hid (HB3.out.trans (hB5.mono HB3.out.size))
  clear hB5 q0 q1 r0 r1 HB3
  go_wp2_with fail
  refine (known_any _ (HE.out.below HB5.out)).mono ?_
  rintro e w6 ⟨rfl, hB6⟩
  have HB6 := Lib.hid (HB5.out.trans (hB6.mono HB5.out.size))
  clear hB6
  go_wp2
  go_ret
  exact ⟨rfl, HB6.out⟩
end Go.Proofs.YtkannkalbhmlcaaDoor
