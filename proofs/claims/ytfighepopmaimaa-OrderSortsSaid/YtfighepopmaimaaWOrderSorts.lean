/-
  OrderSorts' walk.
-/
import Derived.Test.YtfighepopmaimaaOrdM
namespace Go.Proofs.Ytfighepopmaimaa
open Go.RowKit Go.Lib
open Go.RowKit (Below)

/-- Which have been seen behind i rounds. -/
def seenTo (P : List Nat) (i : Nat) : Nat → Bool := fun v => decide (∃ e, e ∈ P.take i ∧ v = e + 1)
theorem seenTo_zero (P : List Nat) : seenTo P 0 = fun _ => false := by funext v; unfold seenTo; simp
theorem seenTo_new {P : List Nat} {i e : Nat} (hn : P.Nodup) (he : P[i]? = some e) : seenTo P i (e + 1) = false := by
  unfold seenTo
  rw [decide_eq_false_iff_not]
  rintro ⟨d, hd, hde⟩
  obtain rfl : d = e := by omega
  obtain ⟨j, hj, hjd⟩ := List.getElem_of_mem hd
  rw [List.length_take] at hj
  rw [List.getElem_take] at hjd
  obtain ⟨hi, hie⟩ := List.getElem?_eq_some_iff.1 he
  have := (List.getElem_inj hn).1 (hjd.trans hie.symm)
  omega
theorem seenTo_succ {P : List Nat} {i e : Nat} (he : P[i]? = some e) : upN (seenTo P i) (e + 1) true = seenTo P (i + 1) := by
  funext v
  obtain ⟨hi, hie⟩ := List.getElem?_eq_some_iff.1 he
  have ht : P.take (i + 1) = P.take i ++ [e] := by rw [List.take_succ_eq_append_getElem hi, hie]
  unfold upN seenTo
  rw [ht]
  by_cases h : v = e + 1
  · rw [if_pos h]; symm; rw [decide_eq_true_iff]; exact ⟨e, by simp, h⟩
  · rw [if_neg h]
    rw [decide_eq_decide]
    constructor
    · rintro ⟨d, hd, hv⟩; exact ⟨d, by simp [hd], hv⟩
    · rintro ⟨d, hd, hv⟩
      rcases List.mem_append.1 hd with h1 | h1
      · exact ⟨d, h1, hv⟩
      · simp at h1; subst h1; exact absurd hv h

theorem made_bools (n : Nat) (w : World) (hn : n ≤ 1000) : (Instr.makeSlice 47 (.int .i64 ((n : Int) + 1)) (.int .i64 ((n : Int) + 1))).run Try.prog w = .ok (.slice (some ⟨w.heap.size, 0, none⟩) (n + 1) (n + 1)) (w.alloc (.cells (madeCells #[.bool false] (n + 1)) 4)) := by
  obtain ⟨i0, hi, hz0, hz1, hz2⟩ := info_parts Try.infoBool
  have h := run_make (P := Try.prog) w 47 4 i0 (.bool false) Try.underlying47 hi hz0 .i64 .i64 ((n : Int) + 1) ((n : Int) + 1) (by omega) (by omega) (by rw [hz2]; omega) (by omega)
  rw [hz1] at h
  rw [show ((n : Int) + 1).toNat = n + 1 by omega] at h
  simp only [Nat.mul_one] at h
  exact h

set_option maxRecDepth 100000 in
set_option maxHeartbeats 8000000 in
theorem orderSorts_walk (w : World) (a : Option Addr) (c : Nat) (zs : List Int) (hR : U16R w a zs) (hwf : ∀ x ∈ zs, (Lit.int .u16 x).wf = true) (hm : zs.length ≤ maxLen) :
    Calls Try.prog 6 #[.slice a zs.length c] w fun e w' => e = .returned (.bool true) ∧ Below w.heap.size w w' := by
  unfold maxLen at hm
  by_cases hl : 200 < zs.length
  · have hK := Lib.hid (known_any w)
    clear hR hwf
    go_enter Try.func6, Try.ntmps6
    go_wp2_with (go_at_call 11; refine hK.out.mono ?_; rintro e w' ⟨rfl, hB⟩)
    go_ret
    exact ⟨rfl, hB⟩
  · have hs := Small.of hwf
    have hA : (madeA zs).n = zs.length := rfl
    have hn : (madeA zs).n ≤ 1000 := by rw [hA]; omega
    have H0 : Hid (St w [] w) := St.nil w
    have KM : Hid (∀ ps W', St w ps W' → Calls Try.prog 26 #[.slice a zs.length c] W' fun r w' => ∃ p, r = .returned (.pointer (some ⟨p, 0, none⟩)) ∧ St w (ps ++ [HP p (madeA zs)]) w') := fun ps W' h => h.made (hR.below h.bel) hs (by omega)
    have KA : Hid (∀ p W', St w [HP p (madeA zs)] W' → Calls Try.prog 27 #[.pointer (some ⟨p, 0, none⟩)] W' fun r w' => ∃ a1 c1, r = .returned (.slice a1 zs.length c1) ∧ St w [HP p (madeA zs).emptied, LS (.slice a1 zs.length c1) (listOf (madeA zs))] w') := fun p W' h => by
      have h9 := h.all (i := 0) rfl hn
      rw [made_len] at h9; exact h9
    have KL : Hid (∀ p P R W', St w [HP p (madeA zs).emptied, P, R] W' → Calls Try.prog 22 #[.pointer (some ⟨p, 0, none⟩)] W' fun r w' => r = .returned (.int .i64 0) ∧ W' = w') := fun p P R W' h => by
      have h9 := h.len (i := 0) rfl
      rw [Hs.emptied_len] at h9; exact h9
    have KK : Hid (∀ ps W', St w ps W' → Calls Try.prog 11 #[] W' fun r w' => r = .returned (.bool true) ∧ St w ps w') := fun ps W' h => by
      refine (known_any W').mono ?_
      rintro r w' ⟨hr, hb⟩
      exact ⟨hr, h.below hb⟩
    have hmk := fun W => made_bools zs.length W (by omega)
    have HBM : Hid (∀ ps W', St w ps W' → St w (ps ++ [BS W'.heap.size (zs.length + 1) (zs.length + 1) fun _ => false]) (W'.alloc (.cells (madeCells #[.bool false] (zs.length + 1)) 4))) := fun ps W' h => h.boolMade _ (by omega)
    have HAT : Hid (∀ i, i < zs.length → ∃ e, (Hs.popAll (madeA zs))[i]? = some e ∧ (listOf (madeA zs)).getD i 0 = (e : Int) + 1 ∧ e < zs.length) := fun i hi => listOf_at (A := madeA zs) (by rw [made_len]; exact hi)
    have HND : Hid (Hs.popAll (madeA zs)).Nodup := Hs.popL_nodup _ _
    have HCH : Hid (∀ i d e, (Hs.popAll (madeA zs))[i]? = some d → (Hs.popAll (madeA zs))[i + 1]? = some e → zs.getD e 0 < zs.getD d 0 ∨ (zs.getD d 0 = zs.getD e 0 ∧ d < e)) := fun i d e h1 h2 => by
      have := Hs.popL_chain _ _ i d e h1 h2
      rw [bef_iff] at this; exact this
    have HLN : Hid ((listOf (madeA zs)).length = zs.length) := made_len zs
    have HR := Lib.hid hR
    generalize listOf (madeA zs) = L at *
    generalize Hs.popAll (madeA zs) = P at *
    generalize madeA zs = A at *
    have hll : ¬ (200 : Int) < (zs.length : Int) := by omega
    have hlz : (zs.length : Int) ≤ 200 := by omega
    clear hR hwf hs hA hn hl
    go_enter Try.func6, Try.ntmps6
    go_wp2_with (first | (go_at_call 26; ((with_reducible refine (KM.out [] _ H0.out).mono ?_); rintro r w1 ⟨p1, rfl, h⟩; have HC : Hid (St w [HP p1 A] w1) := h; clear h H0)) | (go_at_call 27; ((with_reducible refine (KA.out _ _ HC.out).mono ?_); rintro r w2 ⟨a1, c1, rfl, h⟩; clear HC; have HC := Lib.hid h; have HC2 : Hid (St w [HP p1 A.emptied, LS (.slice a1 zs.length c1) L, BS w2.heap.size (zs.length + 1) (zs.length + 1) fun _ => false] (w2.alloc (.cells (madeCells #[.bool false] (zs.length + 1)) 4))) := HBM.out _ _ h; clear h)))
    go_loopw [6] (fun t wr => ∃ i : Nat, t = .int .i64 i ∧ i ≤ zs.length ∧ Hid (St w [HP p1 A.emptied, LS (.slice a1 zs.length c1) L, BS w2.heap.size (zs.length + 1) (zs.length + 1) (seenTo P i)] wr)) (fun t _ => zs.length - (intOf t).toNat)
    case atStart => exact ⟨0, rfl, Nat.zero_le _, by rw [seenTo_zero]; exact HC2⟩
    case round =>
      obtain ⟨i, rfl, hi, HC3⟩ := hrel
      by_cases hlt : i < zs.length
      · obtain ⟨e, he, hLe, hen⟩ := HAT.out i hlt
        obtain ⟨s1, s2⟩ := HC3.out.bools (i := 2) rfl (e := e + 1) (by omega)
        rw [seenTo_new HND.out he] at s1
        have h4 := HC3.out.boolSet (i := 2) rfl (e + 1) true
        rw [seenTo_succ he] at h4
        have H4 : Hid (St w [HP p1 A.emptied, LS (.slice a1 zs.length c1) L, BS w2.heap.size (zs.length + 1) (zs.length + 1) (seenTo P (i + 1))] (wr.setCell ⟨w2.heap.size, e + 1, none⟩ (.bool true))) := h4
        have hI := (HC3.out.ints (i := 1) rfl).1
        have HI := Lib.hid (H4.out.ints (i := 1) rfl).1
        obtain ⟨b1, o1, x1, hb1, hx1, hc1⟩ := hI.at (k := i) (by rw [HLN.out]; exact hlt)
        have hx1e : x1 = (e : Int) + 1 := by
          have := hx1.out
          rw [getD_some L 0 i (by rw [HLN.out]; exact hlt), hLe] at this
          injection this with this; exact this.symm
        subst hx1e
        obtain ⟨b0, o0, hb0, hc0⟩ := (HR.out.below H4.out.bel).at hen
        have he0 : (0 : Int) ≤ (e : Int) := by omega
        have he1 : (e : Int) < (zs.length : Int) := by omega
        have hv1 : ¬ (e : Int) + 1 < 1 := by omega
        have hv2 : ¬ (zs.length : Int) < (e : Int) + 1 := by omega
        clear h4 HC HC2 hx1 hLe HC3 hI
        cases i with
        | zero =>
          have HE := Lib.hid he
          clear he
          rw [Nat.add_zero] at hc1
          subst hb1 hb0
          go_wp2
          go_quiet (fail)
          have H5 := Lib.hid (H4.out.quiet ⟨nq, rfl⟩)
          go_wp2
          go_roundw
          case rel => exact ⟨1, rfl, by omega, H5⟩
          case measure => simp [intOf]; omega
        | succ j =>
          obtain ⟨d, hd, hLd, hdn⟩ := HAT.out j (by omega)
          obtain ⟨b9, o9, x9, hb9, hx9, hc9⟩ := HI.out.at (k := j) (by rw [HLN.out]; omega)
          have hx9e : x9 = (d : Int) + 1 := by
            have := hx9.out
            rw [getD_some L 0 j (by rw [HLN.out]; omega), hLd] at this
            injection this with this; exact this.symm
          subst hx9e
          have hsame : b9 = b1 ∧ o9 = o1 := by rw [hb1] at hb9; cases hb9; exact ⟨rfl, rfl⟩
          obtain ⟨rfl, rfl⟩ := hsame
          obtain ⟨b8, o8, hb8, hc8⟩ := (HR.out.below H4.out.bel).at hdn
          have hsame : b8 = b0 ∧ o8 = o0 := by rw [hb0] at hb8; cases hb8; exact ⟨rfl, rfl⟩
          obtain ⟨rfl, rfl⟩ := hsame
          have hch := HCH.out j d e hd he
          have hd0 : (0 : Int) ≤ (d : Int) := by omega
          have hd1 : (d : Int) < (zs.length : Int) := by omega
          generalize zs.getD d 0 = y at *
          generalize zs.getD e 0 = x at *
          have hj1 : (j : Int) + 1 < (zs.length : Int) := by omega
          subst hb1
          subst hb0
          clear hb9 hb8 hx9 hLd he hd
          rcases hch with h7 | ⟨h7, h8⟩
          · have t1 : decide (y < x) = false := decide_eq_false (by omega)
            have t2 : (y == x) = false := by simp; omega
            clear h7
            go_wp2
            go_quiet (fail)
            have H5 := Lib.hid (H4.out.quiet ⟨nq, rfl⟩)
            go_wp2
            go_roundw
            case rel => exact ⟨j + 2, by go_num, by omega, H5⟩
            case measure => simp [intOf]; omega
          · subst h7
            have t1 : decide (y < y) = false := decide_eq_false (by omega)
            have t2 : (y == y) = true := by simp
            have t3 : decide (e < d) = false := decide_eq_false (by omega)
            have t4 : ¬ e < d := by omega
            clear h8
            go_wp2
            go_quiet (fail)
            have H5 := Lib.hid (H4.out.quiet ⟨nq, rfl⟩)
            go_wp2
            go_roundw
            case rel => exact ⟨j + 2, by go_num, by omega, H5⟩
            case measure => simp [intOf]; omega
      · obtain rfl : i = zs.length := by omega
        clear HC HC2 hlt
        go_wp2_with (first | (go_at_call 22; ((with_reducible refine (KL.out _ _ _ _ HC3.out).mono ?_); rintro r w4 ⟨rfl, rfl⟩)) | (go_at_call 11; ((with_reducible refine (KK.out _ _ HC3.out).mono ?_); rintro r w5 ⟨rfl, h⟩; clear HC3; have HC3 := Lib.hid h; clear h)))
        go_ret
        exact ⟨rfl, HC3.out.bel⟩
end Go.Proofs.Ytfighepopmaimaa
