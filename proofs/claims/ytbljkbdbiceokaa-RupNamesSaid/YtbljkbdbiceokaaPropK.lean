/-
  check; watchAll, learnAll; literals.
-/
import Derived.Test.YtbljkbdbiceokaaPropJ
import Derived.OwnWalk
namespace Go.Proofs.Ytbljkbdbiceokaa
open Go.RowKit Go.Lib
open Go.RowKit (Below)

/-! What check answers. -/
def checkP (n : Int) (zss : List (List Int)) (xs : List Int) : Int := if checkF n zss ≠ 0 then checkF n zss else if xs.any (badB n) then 3 else 0
theorem checkI_one {n : Int} (h1 : 0 ≤ n) (h2 : n ≤ 1048576) (x : Int) : checkI n [x] = if badB n x then 3 else 0 := by
  unfold checkI
  rw [if_neg (by omega), if_neg (by simp)]
  simp
theorem checkF_range {n : Int} {zss : List (List Int)} (h : checkF n zss = 0) : 0 ≤ n ∧ n ≤ 1048576 := by
  unfold checkF at h
  split at h
  · omega
  · omega
def OkTo (n : Int) (xs : List Int) (k : Nat) : Prop := ∀ j x, j < k → xs[j]? = some x → badB n x = false
theorem OkTo.succ {n : Int} {xs : List Int} {k : Nat} (h : OkTo n xs k) {x : Int} (hx : xs[k]? = some x) (hb : badB n x = false) : OkTo n xs (k + 1) := fun j y hj hy => by
  by_cases e : j = k
  · subst e; rw [hx] at hy; cases hy; exact hb
  · exact h j y (by omega) hy
theorem OkTo.all {n : Int} {xs : List Int} (h : OkTo n xs xs.length) : xs.any (badB n) = false := by
  rw [List.any_eq_false]
  intro x hx
  obtain ⟨j, hj⟩ := List.mem_iff_getElem?.1 hx
  rw [h j x (List.getElem?_eq_some_iff.1 hj).1 hj]; simp
theorem bad_any {n : Int} {xs : List Int} {k : Nat} {x : Int} (hx : xs[k]? = some x) (hb : badB n x = true) : xs.any (badB n) = true := by
  rw [List.any_eq_true]; exact ⟨x, List.mem_of_getElem? hx, hb⟩

set_option maxHeartbeats 1000000 in
theorem pcheck_any {n : Int} {zss : List (List Int)} {xs : List Int} (a : Option Addr) (c : Nat) (xa : Option Addr) (xc : Nat) (w : World) (hm : zss.length ≤ maxLen) (hA : AllLen zss) (hR : RowsR .i64 w a zss) (hX : IntsR w xa xs) (hxl : xs.length ≤ maxLen) :
    Calls Try.prog 44 #[.agg #[.int .i64 n, .slice a zss.length c], .slice xa xs.length xc] w fun e w' => e = .returned (.int .i64 (checkP n zss xs)) ∧ Below w.heap.size w w' := by
  have h0 := Lib.hid (box0 w (.int .i64 n) (.slice a zss.length c) 26)
  have h1 := Lib.hid (box1 w (.int .i64 n) (.slice a zss.length c) 26)
  have HA := Lib.hid hA
  have HR := Lib.hid hR
  have HX := Lib.hid hX
  have HM := Lib.hid hm
  obtain ⟨r, hr⟩ : ∃ r, checkF n zss = r := ⟨_, rfl⟩
  have HF := Lib.hid hr
  have hb0 : (xs.length : Int) ≤ 9223372036854775807 := by have : maxLen = 9223372036854775807 := rfl; omega
  clear hA hR hX hm hr hxl
  by_cases hr0 : r = 0
  · have e1 : (r != 0) = false := by simp [hr0]
    have HRG : Hid (0 ≤ n ∧ n ≤ 1048576) := checkF_range (by rw [HF.out, hr0])
    have HR0 := Lib.hid hr0
    clear hr0
    go_enter Try.func44, Try.ntmps44
    go_wp2_with fail
    refine (checkF_is rfl HF.out _ _ _ HM.out HA.out (HR.out.alloc _)).mono ?_
    rintro e w1 ⟨rfl, hB⟩
    have HB := Lib.hid (((boxed w (.cells #[.int .i64 n, .slice a zss.length c] 26))).trans (hB.mono (by simp)))
    have HT : Hid (Two w1 w.heap.size (.int .i64 n) (.slice a zss.length c)) := (Two.new w _ _).below hB (by simp)
    have HXX := Lib.hid (HX.out.below HB.out)
    have hs1 : w.heap.size < w1.heap.size := HT.out.lt
    clear hB
    go_wp2
    go_loopw [16] (fun i wr => ∃ k : Nat, i = .int .i64 k ∧ k ≤ xs.length ∧ Hid (OkTo n xs k) ∧ Hid (Below w1.heap.size w1 wr)) (fun i _ => xs.length - (intOf i).toNat)
    case atStart => exact ⟨0, rfl, Nat.zero_le _, (fun j x hj => by omega), Below.refl _ _⟩
    case round =>
      obtain ⟨k, rfl, hk, HO, HW⟩ := hrel
      by_cases hlt : k < xs.length
      · obtain ⟨b, off, x, rfl, hx, hcx⟩ := (HXX.out.below HW.out).at hlt
        have hT := HT.out.below HW.out hs1
        have c0 := hT.c0
        have HXI : Hid (IntsR (wr.alloc (.cells #[.int .i64 x] 3)) (some ⟨wr.heap.size, 0, none⟩) [x]) := IntsR.lit wr #[.int .i64 x] 3 [x] rfl rfl
        have HCI : Hid (checkI n [x] = if badB n x then 3 else 0) := checkI_one HRG.out.1 HRG.out.2 x
        clear hT
        by_cases hbx : badB n x = true
        · have HCK : Hid (checkI n [x] = 3) := by unfold Hid; rw [HCI.out, if_pos hbx]
          have HBD := Lib.hid (bad_any hx.out hbx)
          clear hbx
          go_wp2_with fail
          refine (check_is (l := 1) rfl HCK.out _ _ _ (by decide) HXI.out).mono ?_
          rintro e w' ⟨rfl, rfl⟩
          go_wp2
          go_ret
          refine ⟨ret_int ?_, HB.out.trans ((HW.out.mono (by omega)).trans ((boxed wr _).mono (by have := HW.out.size; omega)))⟩
          unfold checkP
          rw [HF.out, HR0.out, if_neg (by simp), if_pos HBD.out]
        · have hbx' : badB n x = false := by simpa using hbx
          have HCK : Hid (checkI n [x] = 0) := by unfold Hid; rw [HCI.out, hbx']; rfl
          have HO2 := Lib.hid (HO.out.succ hx.out hbx')
          clear hbx hbx'
          go_wp2_with fail
          refine (check_is (l := 1) rfl HCK.out _ _ _ (by decide) HXI.out).mono ?_
          rintro e w' ⟨rfl, rfl⟩
          go_wp2
          go_roundw
          case rel => exact ⟨k + 1, by go_num, by omega, HO2, HW.out.trans ((boxed wr _).mono HW.out.size)⟩
          case measure => simp [intOf]; omega
      · have hkl : k = xs.length := by omega
        have HNB : Hid (xs.any (badB n) = false) := by
          have h := HO.out
          rw [hkl] at h
          exact h.all
        go_wp2
        go_ret
        refine ⟨ret_int ?_, HB.out.trans (HW.out.mono (by omega))⟩
        unfold checkP
        rw [HF.out, HR0.out, if_neg (by simp), HNB.out]; rfl
  · have e1 : (r != 0) = true := by simp [hr0]
    have HR0 := Lib.hid hr0
    clear hr0
    go_enter Try.func44, Try.ntmps44
    go_wp2_with fail
    refine (checkF_is rfl HF.out _ _ _ HM.out HA.out (HR.out.alloc _)).mono ?_
    rintro e w1 ⟨rfl, hB⟩
    have HB := Lib.hid (((boxed w (.cells #[.int .i64 n, .slice a zss.length c] 26))).trans (hB.mono (by simp)))
    clear hB
    go_wp2
    go_ret
    refine ⟨ret_int ?_, HB.out⟩
    unfold checkP
    rw [HF.out, if_pos HR0.out]

/-! The clauses, one by one. -/
def total (zss : List (List Int)) : Nat := (zss.map List.length).sum
theorem total_drop {zss : List (List Int)} {k : Nat} {z : List Int} (h : zss[k]? = some z) : total (zss.drop k) = z.length + total (zss.drop (k + 1)) := by
  obtain ⟨hk, rfl⟩ := List.getElem?_eq_some_iff.1 h
  rw [List.drop_eq_getElem_cons hk]
  simp only [total, List.map_cons, List.sum_cons]

set_option maxHeartbeats 1000000 in
theorem watchAll_any {B : Nat} {m : Mm} {f : Int → Value} {cv : Value} {N s r : Nat} {vs : List Value} {S : St} {w w0 : World} (h : PR B m f cv N s r vs S w) {zss : List (List Int)} {A : List Int} (I : Inv zss [] A m.n S 0 []) (hnew : ∀ x, S.kn x → x ∈ S.queue) (hS : S.cls.length = 0)
    {a : Option Addr} {c : Nat} (hB : w0.heap.size = B) (hR : RowsR .i64 w0 a zss) (hb : Below B w0 w) (hm : zss.length ≤ 1000000000) (hnn : m.n ≤ 1000000) (hT : N + potC S.cls + total zss ≤ m.T) (hT2 : m.T ≤ 1000000000000) :
    Calls Try.prog 46 #[.pointer (some ⟨m.pb, 0, none⟩), .slice a zss.length c] w fun e w' => ∃ b S', e = .returned (.bool b) ∧ (∃ f' cv' N' s' r' vs', PR B m f' cv' N' s' r' vs' S' w') ∧
      (b = true → Inv zss zss A m.n S' 0 [] ∧ ∀ x, S'.kn x → x ∈ S'.queue) ∧ (b = false → Fails zss A) ∧ Below B w w' := by
  have HP := Lib.hid h
  have HI := Lib.hid I
  have HNW := Lib.hid hnew
  have HS := Lib.hid hS
  have HB := Lib.hid hB
  have HR := Lib.hid hR
  have HBW := Lib.hid hb
  have HNN := Lib.hid hnn
  have HT := Lib.hid hT
  have HT2 := Lib.hid hT2
  have hmI : (zss.length : Int) ≤ 1000000000 := by omega
  clear h I hnew hS hB hR hb hnn hT hT2
  go_enter Try.func46, Try.ntmps46
  go_wp2
  go_loopw [9] (fun i wr => ∃ (k : Nat) (S1 : St), i = .int .i64 k ∧ k ≤ zss.length ∧ Hid (∃ f1 cv1 N1 s1 r1 vs1, PR B m f1 cv1 N1 s1 r1 vs1 S1 wr ∧ N1 + potC S1.cls + total (zss.drop k) ≤ m.T) ∧ Hid (Inv zss (zss.take k) A m.n S1 0 [] ∧ (∀ x, S1.kn x → x ∈ S1.queue) ∧ S1.cls.length ≤ k) ∧ Hid (Below B w wr)) (fun i _ => zss.length - (intOf i).toNat)
  case atStart => exact ⟨0, S, rfl, Nat.zero_le _, ⟨_, _, _, _, _, _, HP.out, by simpa using HT.out⟩, ⟨by simpa using HI.out, HNW.out, by have := HS.out; omega⟩, Below.refl _ _⟩
  case round =>
    obtain ⟨k, S1, rfl, hk, HPE, HIE, HB1⟩ := hrel
    obtain ⟨f1, cv1, N1, s1, r1, vs1, hP1, hpot⟩ := HPE.out
    by_cases hlt : k < zss.length
    · obtain ⟨b, off, aj, cj, z, rfl, hbs, hz, hcz, hK, hle, hmx⟩ := HR.out.atC hlt
      have hBw := HBW.out.trans HB1.out
      have hcell : wr.cell? ⟨b, off + k, none⟩ = some (.slice aj z.length cj) := by rw [hBw.cell (p := ⟨b, off + k, none⟩) (by rw [← HB.out]; exact hbs)]; exact hcz
      have hKI : IntsR wr aj z := hK.out.ints.below (by rw [HB.out]; exact hBw)
      have hpb : 0 < z.length → ∀ p, aj = some p → p.block < B ∧ p.block < wr.heap.size := fun h0 p hp => by
        rcases hK.out with h1 | ⟨b1, off1, h1, h2, _⟩
        · omega
        · rw [h1] at hp; cases hp
          rw [HB.out] at h2
          exact ⟨h2, Nat.lt_of_lt_of_le h2 hP1.size⟩
      have hzmem : z ∈ zss := List.mem_of_getElem? hz.out
      have htd := total_drop hz.out
      have hw := watch_any hP1 (c := z) hKI hpb hle hmx (fun x hx => HIE.out.1.ok z hzmem x hx) HNN.out (by omega) HT2.out (by have := HIE.out.2.2; omega) (fun x hx _ => HIE.out.1.room (HIE.out.1.ok z hzmem x hx).1 (HIE.out.1.ok z hzmem x hx).2)
      have hstep := HIE.out.1.watch hzmem HIE.out.2.1
      obtain ⟨bb, hbb⟩ : ∃ bb, (watchS S1 z).2 = bb := ⟨_, rfl⟩
      rw [hbb] at hw
      have hcl : (watchS S1 z).1.cls.length ≤ S1.cls.length + 1 := by
        unfold watchS
        split
        · simp
        · split
          · simp
          · unfold learnS; split <;> simp
      have htk : zss.take (k + 1) = zss.take k ++ [z] := take_snoc _ _ _ hz.out
      have HW := Lib.hid hw
      have HST := Lib.hid hstep
      have HBB := Lib.hid hbb
      have HCL := Lib.hid hcl
      have HTK := Lib.hid htk
      have HTD := Lib.hid htd
      have HPOT := Lib.hid hpot
      clear hP1 HPE hcz hK hBw hKI hpb hzmem htd hw hstep hbb hcl htk hpot hle hmx
      go_wp2_with fail
      refine HW.out.mono ?_
      rintro e' w' ⟨rfl, ⟨f4, cv4, N4, s4, vs4, hP4, hN4⟩, hB4⟩
      have HP4 : Hid (∃ f1 cv1 N1 s1 r1 vs1, PR B m f1 cv1 N1 s1 r1 vs1 (watchS S1 z).1 w' ∧ N1 + potC (watchS S1 z).1.cls + total (zss.drop (k + 1)) ≤ m.T) := ⟨_, _, _, _, _, _, hP4, by have := HTD.out; have := HPOT.out; omega⟩
      have HB4 := Lib.hid (HB1.out.trans hB4)
      clear hP4 hN4 hB4 hcell HW
      cases bb with
      | true =>
        have HI4 : Hid (Inv zss (zss.take (k + 1)) A m.n (watchS S1 z).1 0 [] ∧ (∀ x, (watchS S1 z).1.kn x → x ∈ (watchS S1 z).1.queue) ∧ (watchS S1 z).1.cls.length ≤ k + 1) := by
          have h1 := HST.out.1 HBB.out
          unfold Hid
          rw [HTK.out]
          exact ⟨h1.1, h1.2, by have := HCL.out; have := HIE.out.2.2; omega⟩
        clear HST
        go_wp2
        go_roundw
        case rel => exact ⟨k + 1, _, by go_num, by omega, HP4, HI4, HB4⟩
        case measure => simp [intOf]; omega
      | false =>
        have HFL := Lib.hid (HST.out.2 HBB.out)
        clear HST
        go_wp2
        go_ret
        obtain ⟨_, _, _, _, _, _, h, _⟩ := HP4.out
        exact ⟨false, _, rfl, ⟨_, _, _, _, _, _, h⟩, (fun h => by cases h), fun _ => HFL.out, HB4.out⟩
    · have hkl : k = zss.length := by omega
      have HIF : Hid (Inv zss zss A m.n S1 0 [] ∧ ∀ x, S1.kn x → x ∈ S1.queue) := by
        have h1 := HIE.out
        rw [hkl, List.take_length] at h1
        exact ⟨h1.1, h1.2.1⟩
      have HPE2 := Lib.hid hP1
      clear hP1 hpot HPE HIE
      go_wp2
      go_ret
      exact ⟨true, S1, rfl, ⟨_, _, _, _, _, _, HPE2.out⟩, fun _ => HIF.out, (fun h => by cases h), HB1.out⟩
end Go.Proofs.Ytbljkbdbiceokaa
