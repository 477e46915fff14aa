/-
  Contracts of First (program and reference) and of the reference's Check.
-/
import Derived.Test.YtbljkbdbiceokaaCnfB
namespace Go.Proofs.Ytbljkbdbiceokaa
open Go.RowKit Go.Lib
open Go.RowKit (Below)

theorem QuietTo.cell {w w' : World} (h : QuietTo w w') (p : Addr) : w'.cell? p = w.cell? p := by obtain ⟨q, rfl⟩ := h; rfl
theorem QuietTo.on {w w' : World} (h : QuietTo w w') (n : Nat) : QuietTo w (w'.drewN n) := by obtain ⟨q, rfl⟩ := h; exact ⟨q + n, World.drewN_drewN ..⟩
theorem QuietTo.rfl' {w : World} : QuietTo w w := ⟨0, rfl⟩
theorem box0 (w : World) (x y : Value) (T : TypeId) : (w.alloc (.cells #[x, y] T)).cell? ⟨w.heap.size, 0, none⟩ = some x := by rw [World.cell?_alloc_at _ _ _ _ rfl]; rfl
theorem box1 (w : World) (x y : Value) (T : TypeId) : (w.alloc (.cells #[x, y] T)).cell? ⟨w.heap.size, 1, none⟩ = some y := by rw [World.cell?_alloc_at _ _ _ _ rfl]; rfl

theorem refCheck_is {zs : List Int} {n r : Int} {l : Nat} (hl : zs.length = l) (hr : checkI n zs = r) (a : Option Addr) (c : Nat) (w : World) (hb : l ≤ maxLen) (h : IntsR w a zs) :
    Calls Try.prog 35 #[.int .i64 n, .slice a l c] w fun e w' => e = .returned (.int .i64 r) ∧ w' = w := by
  subst hl hr; exact (refCheck_any n a c zs w hb h).mono fun _ _ ⟨h1, h2⟩ => ⟨h1, h2.symm⟩

set_option maxHeartbeats 1000000 in
theorem refCheckF_any (n : Int) (a : Option Addr) (c : Nat) (zss : List (List Int)) (w : World) (hm : zss.length ≤ maxLen) (hA : AllLen zss) (h : RowsR .i64 w a zss) :
    Calls Try.prog 34 #[.agg #[.int .i64 n, .slice a zss.length c]] w fun e w' => e = .returned (.int .i64 (checkF n zss)) ∧ Below w.heap.size w w' := by
  unfold maxLen at hm
  have HA := Lib.hid hA
  clear hA
  have HR := Lib.hid (h.alloc (.cells #[.int .i64 n, .slice a zss.length c] 26))
  have HB := Lib.hid (boxed w (.cells #[.int .i64 n, .slice a zss.length c] 26))
  clear h
  by_cases hn : n < 0 ∨ 1048576 < n
  · have HC := Lib.hid (checkF_out (zss := zss) hn)
    clear HR HA
    rcases hn with hn | hn
    · go_enter Try.func34, Try.ntmps34
      go_wp2
      go_ret
      exact ⟨ret_int HC.out.symm, HB.out⟩
    · have hn0 : 0 ≤ n := by omega
      go_enter Try.func34, Try.ntmps34
      go_wp2
      go_ret
      exact ⟨ret_int HC.out.symm, HB.out⟩
  · have hn0 : 0 ≤ n := by omega
    have hn1 : n ≤ 1048576 := by omega
    by_cases hl : 1048576 < zss.length
    · have HC := Lib.hid (checkF_long hn hl)
      clear hn HA
      go_enter Try.func34, Try.ntmps34
      go_wp2
      go_ret
      exact ⟨ret_int HC.out.symm, HB.out⟩
    · have HC := Lib.hid (checkF_in hn hl)
      have hl' : zss.length ≤ 1048576 := by omega
      clear hn hl
      have h0 := Lib.hid (box0 w (.int .i64 n) (.slice a zss.length c) 26)
      have h1 := Lib.hid (box1 w (.int .i64 n) (.slice a zss.length c) 26)
      go_enter Try.func34, Try.ntmps34
      go_wp2
      go_loopw [3] (fun i wr => ∃ k : Nat, k ≤ zss.length ∧ i = .int .i64 k ∧ Hid (FineTo n zss k) ∧ Hid (QuietTo (w.alloc (.cells #[.int .i64 n, .slice a zss.length c] 26)) wr)) (fun i _ => zss.length - (intOf i).toNat)
      case atStart => exact ⟨0, Nat.zero_le _, rfl, (fun j z hj => by omega), QuietTo.rfl'⟩
      case round =>
        obtain ⟨k, hk, rfl, HS, HQ⟩ := hrel
        have c0 := (HQ.out.cell ⟨w.heap.size, 0, none⟩).trans h0.out
        have c1 := (HQ.out.cell ⟨w.heap.size, 1, none⟩).trans h1.out
        have hR := HR.out.quiet HQ.out
        by_cases hlt : k < zss.length
        · obtain ⟨b, off, aj, cj, zs, rfl, hbs, HZ, hc, HK⟩ := hR.at hlt
          have hzl := HA.out.at HZ.out
          clear HR HA hR
          by_cases hv : checkI n zs = 0
          · have hS := Lib.hid (HS.out.succ HZ.out hv)
            have HV := Lib.hid hv
            clear hv
            go_wp2
            go_quiet ((go_at_call 35; exact Calls.quiet_of_same (refCheck_is (zs := zs) rfl HV.out aj cj _ hzl HK.out)))
            go_wp2
            go_roundw
            case rel => exact ⟨k + 1, by omega, by go_num, hS, HQ.out.on _⟩
            case measure => simp [intOf]; omega
          · have hS := Lib.hid (errs_at HS.out HZ.out hv)
            obtain ⟨r, hr⟩ : ∃ r, checkI n zs = r := ⟨_, rfl⟩
            have hr0 : r ≠ 0 := by rw [← hr]; exact hv
            have e1 : (r != 0) = true := by simp [hr0]
            have HV := Lib.hid hr
            clear hv hr
            go_wp2
            go_quiet ((go_at_call 35; exact Calls.quiet_of_same (refCheck_is (zs := zs) rfl HV.out aj cj _ hzl HK.out)))
            go_wp2
            go_ret
            exact ⟨ret_int (by rw [HC.out, hS.out, HV.out]), HB.out.trans (quietBelow (HQ.out.on _) _)⟩
        · obtain rfl : k = zss.length := by omega
          have hS := Lib.hid (errs_none HS.out)
          clear HR HA hR
          go_wp2
          go_ret
          exact ⟨ret_int (by rw [HC.out, hS.out]), HB.out.trans (quietBelow HQ.out _)⟩

theorem checkF_is {zss : List (List Int)} {n r : Int} {l : Nat} (hl : zss.length = l) (hr : checkF n zss = r) (a : Option Addr) (c : Nat) (w : World) (hb : l ≤ maxLen) (hA : AllLen zss) (h : RowsR .i64 w a zss) :
    Calls Try.prog 42 #[.agg #[.int .i64 n, .slice a l c]] w fun e w' => e = .returned (.int .i64 r) ∧ Below w.heap.size w w' := by
  subst hl hr; exact checkF_any n a c zss w hb hA h
theorem refCheckF_is {zss : List (List Int)} {n r : Int} {l : Nat} (hl : zss.length = l) (hr : checkF n zss = r) (a : Option Addr) (c : Nat) (w : World) (hb : l ≤ maxLen) (hA : AllLen zss) (h : RowsR .i64 w a zss) :
    Calls Try.prog 34 #[.agg #[.int .i64 n, .slice a l c]] w fun e w' => e = .returned (.int .i64 r) ∧ Below w.heap.size w w' := by
  subst hl hr; exact refCheckF_any n a c zss w hb hA h

/-- The first clause that does not hold in the model m; -1: all hold. -/
def firstI (m : List Bool) (zss : List (List Int)) : Int := match zss.findIdx? (fun z => !z.any (holdsL m)) with | none => -1 | some i => i
def HoldTo (m : List Bool) (zss : List (List Int)) (k : Nat) : Prop := ∀ j z, j < k → zss[j]? = some z → z.any (holdsL m) = true
theorem HoldTo.succ {m : List Bool} {zss : List (List Int)} {k : Nat} (h : HoldTo m zss k) {z : List Int} (hz : zss[k]? = some z) (hl : z.any (holdsL m) = true) : HoldTo m zss (k + 1) := fun j y hj hy => by
  by_cases e : j = k
  · subst e; rw [hz] at hy; cases hy; exact hl
  · exact h j y (by omega) hy
theorem firstI_at {m : List Bool} {zss : List (List Int)} {k : Nat} (h : HoldTo m zss k) {z : List Int} (hz : zss[k]? = some z) (hl : z.any (holdsL m) = false) : firstI m zss = k := by
  unfold firstI
  have : zss.findIdx? (fun z => !z.any (holdsL m)) = some k := by
    obtain ⟨hk, rfl⟩ := List.getElem?_eq_some_iff.1 hz
    rw [List.findIdx?_eq_some_iff_getElem]
    refine ⟨hk, by simp [hl], fun j hj => ?_⟩
    simp only [h j _ hj (List.getElem?_eq_getElem (by omega))]; simp
  rw [this]
theorem firstI_none {m : List Bool} {zss : List (List Int)} (h : HoldTo m zss zss.length) : firstI m zss = -1 := by
  unfold firstI
  have : zss.findIdx? (fun z => !z.any (holdsL m)) = none := by
    rw [List.findIdx?_eq_none_iff]
    intro z hz
    obtain ⟨j, hj⟩ := List.mem_iff_getElem?.1 hz
    simp only [h j z (List.getElem?_eq_some_iff.1 hj).1 hj]; rfl
  rw [this]
/-- What First answers: the number and the error. -/
def firstN (n : Int) (m : List Bool) (zss : List (List Int)) : Int := if checkF n zss = 0 ∧ (m.length : Int) = n then firstI m zss else 0
def firstE (n : Int) (m : List Bool) (zss : List (List Int)) : Int := if checkF n zss = 0 then (if (m.length : Int) = n then 0 else 2) else checkF n zss

theorem firstN_bad {n r : Int} {m : List Bool} {zss : List (List Int)} (h : checkF n zss = r) (hr : r ≠ 0) : firstN n m zss = 0 ∧ firstE n m zss = r := by
  subst h; exact ⟨if_neg (fun h => hr h.1), if_neg hr⟩
theorem firstN_arg {n : Int} {m : List Bool} {zss : List (List Int)} (h : checkF n zss = 0) (hl : (m.length : Int) ≠ n) : firstN n m zss = 0 ∧ firstE n m zss = 2 := by
  refine ⟨if_neg (fun h => hl h.2), ?_⟩
  unfold firstE; rw [if_pos h, if_neg hl]
theorem firstN_in {n : Int} {m : List Bool} {zss : List (List Int)} (h : checkF n zss = 0) (hl : (m.length : Int) = n) : firstN n m zss = firstI m zss ∧ firstE n m zss = 0 := by
  refine ⟨if_pos ⟨h, hl⟩, ?_⟩
  unfold firstE; rw [if_pos h, if_pos hl]
theorem ret_two {a b c d : Int} (h1 : a = c) (h2 : b = d) : Ending.returned (.tuple #[.int .i64 a, .int .i64 b]) = .returned (.tuple #[.int .i64 c, .int .i64 d]) := by rw [h1, h2]

set_option maxHeartbeats 1000000 in
theorem first_any (n : Int) (a : Option Addr) (c : Nat) (zss : List (List Int)) (b : Option Addr) (d : Nat) (m : List Bool) (w : World) (hm : zss.length ≤ maxLen) (hA : AllLen zss) (hmm : m.length ≤ maxLen) (h : RowsR .i64 w a zss) (hM : BoolsR w b m) :
    Calls Try.prog 25 #[.agg #[.int .i64 n, .slice a zss.length c], .slice b m.length d] w fun e w' => e = .returned (.tuple #[.int .i64 (firstN n m zss), .int .i64 (firstE n m zss)]) ∧ Below w.heap.size w w' := by
  obtain ⟨r, hr⟩ : ∃ r, checkF n zss = r := ⟨_, rfl⟩
  have HA := Lib.hid hA
  have HR := Lib.hid (h.alloc (.cells #[.int .i64 n, .slice a zss.length c] 26))
  have HB := Lib.hid (boxed w (.cells #[.int .i64 n, .slice a zss.length c] 26))
  have h0 := Lib.hid (box0 w (.int .i64 n) (.slice a zss.length c) 26)
  have h1 := Lib.hid (box1 w (.int .i64 n) (.slice a zss.length c) 26)
  have HM := Lib.hid (hM.below (boxed w (.cells #[.int .i64 n, .slice a zss.length c] 26)))
  have HV := Lib.hid hr
  clear h hM hA
  by_cases hr0 : r = 0
  · subst hr0
    unfold maxLen at hmm
    by_cases hl : (m.length : Int) = n
    · have hF := firstN_in (m := m) hr hl
      have HF1 := Lib.hid hF.1
      have HF2 := Lib.hid hF.2
      have e2 : ((m.length : Int) != n) = false := by simp [hl]
      clear hF hr hl
      go_enter Try.func25, Try.ntmps25
      go_wp2_with fail
      refine (checkF_is rfl HV.out a c _ hm HA.out HR.out).mono ?_
      rintro e w1 ⟨rfl, hB1⟩
      have c0 := (hB1.cell (p := ⟨w.heap.size, 0, none⟩) (by simp)).trans h0.out
      have c1 := (hB1.cell (p := ⟨w.heap.size, 1, none⟩) (by simp)).trans h1.out
      have HR1 := Lib.hid (HR.out.below hB1)
      have HM1 := Lib.hid (HM.out.below hB1)
      have HB1 := Lib.hid (HB.out.trans (hB1.mono (by simp)))
      clear hB1 HR HM HB h0 h1
      unfold maxLen at hm
      go_wp2
      go_loop [22] (fun i => ∃ k : Nat, k ≤ zss.length ∧ i = .int .i64 k ∧ Hid (HoldTo m zss k)) (fun i => zss.length - (intOf i).toNat)
      case atStart => exact ⟨0, Nat.zero_le _, rfl, fun j z hj => by omega⟩
      case round =>
        obtain ⟨k, hk, rfl, HS⟩ := hrel
        by_cases hlt : k < zss.length
        · obtain ⟨bb, off, aj, cj, zs, rfl, hbs, HZ, hc, HK⟩ := HR1.out.at hlt
          have hzl := HA.out.at HZ.out
          clear HR1 HA
          cases hv : zs.any (holdsL m)
          · have HW := Lib.hid hv
            have hS := Lib.hid (firstI_at HS.out HZ.out hv)
            clear hv
            go_wp2_with fail
            refine (holds_is rfl rfl HW.out b aj d cj _ hmm hzl HM1.out HK.out).mono ?_
            rintro e w2 ⟨rfl, rfl⟩
            go_wp2
            go_ret2
            exact ⟨ret_two (by rw [HF1.out, hS.out]) HF2.out.symm, HB1.out⟩
          · have HW := Lib.hid hv
            have hS := Lib.hid (HS.out.succ HZ.out hv)
            clear hv
            go_wp2_with fail
            refine (holds_is rfl rfl HW.out b aj d cj _ hmm hzl HM1.out HK.out).mono ?_
            rintro e w2 ⟨rfl, rfl⟩
            go_wp2
            go_round
            case rel => exact ⟨k + 1, by omega, by go_num, hS⟩
            case measure => simp [intOf]; omega
        · obtain rfl : k = zss.length := by omega
          have hS := Lib.hid (firstI_none HS.out)
          go_wp2
          go_ret2
          exact ⟨ret_two (by rw [HF1.out, hS.out]) HF2.out.symm, HB1.out⟩
    · have hF := firstN_arg (m := m) hr hl
      have HF1 := Lib.hid hF.1
      have HF2 := Lib.hid hF.2
      have e2 : ((m.length : Int) != n) = true := by simp [hl]
      clear hF hr hl
      go_enter Try.func25, Try.ntmps25
      go_wp2_with fail
      refine (checkF_is rfl HV.out a c _ hm HA.out HR.out).mono ?_
      rintro e w1 ⟨rfl, hB1⟩
      have c0 := (hB1.cell (p := ⟨w.heap.size, 0, none⟩) (by simp)).trans h0.out
      have HB1 := Lib.hid (HB.out.trans (hB1.mono (by simp)))
      clear hB1 HR HM HB h0 h1
      go_wp2
      go_ret2
      exact ⟨ret_two HF1.out.symm HF2.out.symm, HB1.out⟩
  · have hF := firstN_bad (m := m) hr hr0
    have HF1 := Lib.hid hF.1
    have HF2 := Lib.hid hF.2
    have e1 : (r != 0) = true := by simp [hr0]
    clear hF hr hr0
    go_enter Try.func25, Try.ntmps25
    go_wp2_with fail
    refine (checkF_is rfl HV.out a c _ hm HA.out HR.out).mono ?_
    rintro e w1 ⟨rfl, hB1⟩
    have HB1 := Lib.hid (HB.out.trans (hB1.mono (by simp)))
    clear hB1 HR HM HB h0 h1
    go_wp2
    go_ret2
    exact ⟨ret_two HF1.out.symm HF2.out.symm, HB1.out⟩

theorem QuietTo.trans {a b c : World} (h : QuietTo a b) (k : QuietTo b c) : QuietTo a c := by
  obtain ⟨q, rfl⟩ := k; exact h.on q
theorem BoolsR.quiet {w w' : World} {a : Option Addr} {zs : List Bool} (h : BoolsR w a zs) (hq : QuietTo w w') : BoolsR w' a zs := h.below (quietBelow hq _)

theorem first_is {n x y : Int} {zss : List (List Int)} {m : List Bool} {l k : Nat} (hl : zss.length = l) (hk : m.length = k) (hx : firstN n m zss = x) (hy : firstE n m zss = y) (a : Option Addr) (c : Nat) (b : Option Addr) (d : Nat) (w : World) (hm : l ≤ maxLen) (hA : AllLen zss) (hmm : k ≤ maxLen) (h : RowsR .i64 w a zss) (hM : BoolsR w b m) :
    Calls Try.prog 25 #[.agg #[.int .i64 n, .slice a l c], .slice b k d] w fun e w' => e = .returned (.tuple #[.int .i64 x, .int .i64 y]) ∧ Below w.heap.size w w' := by
  subst hl hk hx hy; exact first_any n a c zss b d m w hm hA hmm h hM
end Go.Proofs.Ytbljkbdbiceokaa
