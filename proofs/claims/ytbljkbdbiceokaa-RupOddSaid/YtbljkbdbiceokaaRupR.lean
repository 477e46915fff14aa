/-
  Layer 5's reference: negatives, Implied.
-/
import Derived.Test.YtbljkbdbiceokaaRupT
import Derived.Test.YtbljkbdbiceokaaPropZ
import Derived.Deep.RegionHeld3
import Derived.Deep.DrawnRows
namespace Go.Proofs.Ytbljkbdbiceokaa
open Go.RowKit Go.Lib
open Go.RowKit (Below)

set_option maxRecDepth 100000 in
set_option maxHeartbeats 2000000 in
theorem refNegs_any (a : Option Addr) (c : Nat) (zs : List Int) (w : World) (hm : zs.length ≤ 1000000) (h : IntsR w a zs) (hr : ∀ x ∈ zs, -9223372036854775807 ≤ x ∧ x ≤ 9223372036854775807) :
    Calls Try.prog 37 #[.slice a zs.length c] w fun e w' => ∃ v, e = .returned v ∧ Own w' w.heap.size v (negs zs) ∧ Below w.heap.size w w' := by
  obtain ⟨i0, hi, hz0, hz1, hz2⟩ := info_parts Try.info3
  have HI := Lib.hid h
  have HR := Lib.hid hr
  have hmx : maxLen = 9223372036854775807 := rfl
  clear h hr
  go_enter Try.func37, Try.ntmps37
  go_wp2
  go_loopw [3, 4] (fun cv i wr => ∃ q : Nat, i = .int .i64 q ∧ q ≤ zs.length ∧ Hid (Own wr w.heap.size cv (negs (zs.take q))) ∧ Hid (Below w.heap.size w wr)) (fun _ i _ => zs.length - (intOf i).toNat)
  case atStart => exact ⟨0, rfl, Nat.zero_le _, Own.nil _ _, Below.refl _ _⟩
  case round =>
    obtain ⟨q, rfl, hq, HO, HB⟩ := hrel
    have hsz : w.heap.size ≤ wr.heap.size := HB.out.size
    by_cases hlq : q < zs.length
    · obtain ⟨b2', off2, x, rfl, HX, hcx⟩ := (HI.out.below HB.out).at hlq
      have hxv := HR.out x (List.mem_of_getElem? HX.out)
      have hwx : IntKind.i64.wrap (-x) = -x := IntWalk.i64_in _ (by omega)
      have htk : negs (zs.take (q + 1)) = negs (zs.take q) ++ [-x] := by unfold negs; rw [take_snoc _ _ _ HX.out]; simp
      have HTK := Lib.hid htk
      have hlen : (negs (zs.take q)).length = q := by rw [negs_len, List.length_take]; omega
      have HLEN := Lib.hid hlen
      clear hxv htk hlen
      go_wp2_with (at_builtin; refine wpList_append_own _ rfl _ _ 23 rfl w.heap.size 3 i0 (.int .i64 0) 1 8 Try.underlying23 hi hz0 hz1 hz2 rfl (by decide) _ _ _ rfl (World.ownsRow.alloc HO.out _) ⟨wr.heap.size, 0, none⟩ 1 1 [.int .i64 (-x)] rfl rfl (one_new (by simp)) one_int ?c3 ?c4 ?c5 ?_)
      case c3 => rw [HLEN.out]; omega
      case c4 => rw [HLEN.out]; omega
      case c5 => simp; omega
      intro v' w10 hown' hgrow _
      have R1 := Lib.hid (Own.of (zs := negs (zs.take (q + 1))) hown' (by rw [HTK.out]; simp) (by rw [HTK.out]; simp))
      have R2 := Lib.hid (Own.below HO.out HB.out hsz hgrow)
      clear hown' hgrow HO HB
      go_wp2
      go_roundw
      case rel => exact ⟨q + 1, by go_num, by omega, R1, R2⟩
      case measure => simp [intOf]; omega
    · have htk : zs.take q = zs := List.take_of_length_le (by omega)
      rw [htk] at HO
      clear htk
      go_wp2
      go_ret
      exact ⟨_, rfl, HO.out, HB.out⟩

theorem errs_one (n : Int) (z : List Int) : errs n [z] = checkI n z := by
  unfold errs
  by_cases h : checkI n z = 0
  · rw [List.find?_cons_of_neg (by simp [h])]; simp [h]
  · rw [List.find?_cons_of_pos (by simp [h])]
theorem dv_one {n : Int} {F : List (List Int)} {z : List Int} (h : checkF n F = 0) : dv n F [z] = checkI n z := by
  rw [dv_ok h]
  have hn : ¬ (n < 0 ∨ 1048576 < n) := fun hn => by rw [checkF_out hn] at h; cases h
  rw [checkF_in hn (by simp), errs_one]

theorem refUnitsOk {n : Nat} {zss : List (List Int)} {xs : List Int} (a : Option Addr) (c : Nat) (xa : Option Addr) (xc : Nat) (w : World) {L Lx : Nat} (hL : zss.length = L) (hLx : xs.length = Lx) (hn : n ≤ 1000000) (hm : zss.length ≤ maxLen) (hA : AllLen zss) (hR : RowsR .i64 w a zss) (hX : IntsR w xa xs) (hxl : xs.length ≤ maxLen)
    (hz : ∀ z ∈ zss, ∀ x ∈ z, Rng x) (hc : checkF n zss = 0) (hx : ∀ x ∈ xs, x ≠ 0 ∧ x.natAbs ≤ n) :
    Calls Try.prog 36 #[.agg #[.int .i64 n, .slice a L c], .slice xa Lx xc] w fun e w' => ∃ v b, e = .returned (.tuple #[v, .bool b, .int .i64 0]) ∧ Hid (b = true ↔ Fails zss xs) ∧ Hid (Below w.heap.size w w') := by
  subst hL hLx
  have hr : ∀ x ∈ xs, Rng x := fun x h => by have := hx x h; constructor <;> omega
  have hp : checkP n zss xs = 0 := by
    unfold checkP
    rw [hc, if_neg (by simp)]
    have : xs.any (badB n) = false := by
      rw [List.any_eq_false]
      intro x h
      rw [badB_of (hr x h) (hx x h).1 (hx x h).2]; simp
    rw [this]; rfl
  refine (refUnits_any a c xa xc w hn hm hA hR hX hxl hz hr).mono ?_
  rintro e w' ⟨hB, (⟨h, _⟩ | ⟨_, hf, rfl⟩ | ⟨_, v, u, hf, rfl, _⟩)⟩
  · exact absurd hp h
  · exact ⟨_, true, rfl, ⟨fun _ => hf, fun _ => rfl⟩, hB⟩
  · exact ⟨v, false, rfl, ⟨(fun h => by cases h), fun h => absurd h hf.1⟩, hB⟩

set_option maxRecDepth 100000 in
set_option maxHeartbeats 4000000 in
theorem refImplied_any {n : Int} {F : List (List Int)} {z : List Int} (a : Option Addr) (c : Nat) (za : Option Addr) (zc : Nat) (w : World) (hn : n ≤ 1000000) (hFl : F.length ≤ maxLen) (hFA : AllLen F) (hF : RowsR .i64 w a F) (hFr : ∀ z ∈ F, ∀ x ∈ z, Rng x)
    (hzl : z.length ≤ 1000000) (hz : IntsR w za z) (hzr : ∀ x ∈ z, Rng x) :
    Calls Try.prog 16 #[.agg #[.int .i64 n, .slice a F.length c], .slice za z.length zc] w fun e w' => Below w.heap.size w w' ∧ ∃ (v : Bool) (r : Int), e = .returned (.tuple #[.bool v, .int .i64 r]) ∧ ImplPost n F z v r := by
  obtain ⟨wa, hwa⟩ : ∃ wa, w.alloc (.cells #[.int .i64 n, .slice a F.length c] 26) = wa := ⟨_, rfl⟩
  have hBa : Below w.heap.size w wa := by rw [← hwa]; exact boxed w _
  have HTa : Hid (Two wa w.heap.size (.int .i64 n) (.slice a F.length c)) := by unfold Hid; rw [← hwa]; exact Two.new _ _ _
  have HFa := Lib.hid (hF.below hBa)
  have HZa := Lib.hid (hz.below hBa)
  have HFR := Lib.hid hFr
  have HZR := Lib.hid hzr
  have HFA := Lib.hid hFA
  have HBa := Lib.hid hBa
  have hmx : maxLen = 9223372036854775807 := rfl
  have hgl : w.heap.size < wa.heap.size := HTa.out.lt
  have HC := Lib.hid (refCheckF_is (zss := F) (n := n) rfl rfl a c wa hFl hFA HFa.out)
  have c0 := HTa.out.c0
  have c1 := HTa.out.c1
  clear hBa hF hz hFr hzr hFA
  go_enter Try.func16, Try.ntmps16
  go_wp2_with fail
  clear c0 c1
  refine HC.out.mono ?_
  rintro e w1 ⟨rfl, hB1⟩
  have HT1 := Lib.hid (HTa.out.below hB1 hgl)
  have HF1 := Lib.hid (HFa.out.below hB1)
  have HZ1 := Lib.hid (HZa.out.below hB1)
  have HB1 := Lib.hid (HBa.out.trans (hB1.mono HBa.out.size))
  have c0 := HT1.out.c0
  have c1 := HT1.out.c1
  have hg1 : w.heap.size < w1.heap.size := HT1.out.lt
  clear hB1 HC HTa HFa HZa hwa HBa hgl
  by_cases hf : checkF n F = 0
  · have hn0 : 0 ≤ n := Decidable.byContradiction fun h => by rw [checkF_out (by omega)] at hf; cases hf
    obtain ⟨N, rfl⟩ : ∃ N : Nat, n = (N : Int) := ⟨n.toNat, by omega⟩
    have HD := Lib.hid (dv_one (z := z) hf)
    rw [hf]
    obtain ⟨q, hq⟩ : ∃ q, checkI (N : Int) z = q := ⟨_, rfl⟩
    rw [hq] at HD
    have HQ := Lib.hid hq
    have HFZ := Lib.hid hf
    clear hf hq
    go_wp2_with fail
    refine (refCheck_is rfl HQ.out za zc _ (by omega) HZ1.out).mono ?_
    rintro e w2 ⟨rfl, rfl⟩
    obtain ⟨w1, rfl⟩ : ∃ w1 : World, w1 = w2 := ⟨_, rfl⟩
    by_cases hq0 : q = 0
    · subst hq0
      have hzI : ∀ x ∈ z, x ≠ 0 ∧ x.natAbs ≤ N := fun x hx => by
        have h := (checkI_zero HQ.out).2
        rw [List.any_eq_false] at h
        exact badB_ok (HZR.out x hx) (by simpa using h x hx)
      have hnI : ∀ x ∈ negs z, x ≠ 0 ∧ x.natAbs ≤ N := fun x hx => by
        have := hzI _ (mem_negs.1 hx)
        omega
      have HNI := Lib.hid hnI
      have KN : Hid (∀ W, Hid (Below w1.heap.size w1 W) → Calls Try.prog 37 #[.slice za z.length zc] W fun e w' => ∃ ya yc, e = .returned (.slice ya z.length yc) ∧ Hid (IntsR w' ya (negs z)) ∧ Hid (Below w1.heap.size w1 w')) := fun W hW =>
        (refNegs_any za zc z W (by omega) (HZ1.out.below hW.out) (fun x hx => by have := hzI x hx; omega)).mono fun e w' ⟨v, he, hO, hb⟩ => by
          obtain ⟨ya, yc, rfl, hI⟩ := hO.reads
          rw [negs_len] at he
          exact ⟨ya, yc, he, hI, hW.out.trans (hb.mono hW.out.size)⟩
      have KU : Hid (∀ W ya yc, Hid (Below w1.heap.size w1 W) → Hid (IntsR W ya (negs z)) → Calls Try.prog 36 #[.agg #[.int .i64 N, .slice a F.length c], .slice ya z.length yc] W fun e w' => ∃ v b, e = .returned (.tuple #[v, .bool b, .int .i64 0]) ∧ Hid (b = true ↔ Fails F (negs z)) ∧ Hid (Below w1.heap.size w1 w')) := fun W ya yc hW hI => by
        refine (refUnitsOk a c ya yc W rfl (negs_len z) (by omega) hFl HFA.out (HF1.out.below hW.out) hI.out (by rw [negs_len]; omega) HFR.out HFZ.out HNI.out).mono ?_
        rintro e w' ⟨v, b, rfl, hb, hB⟩
        exact ⟨v, b, rfl, hb, hW.out.trans (hB.out.mono hW.out.size)⟩
      have HH : Hid (∀ W, Hid (Below w1.heap.size w1 W) → W.cell? ⟨w.heap.size, 0, none⟩ = some (.int .i64 N) ∧ W.cell? ⟨w.heap.size, 1, none⟩ = some (.slice a F.length c) ∧ Hid (Below w1.heap.size w1 W)) := fun W hW => ⟨(HT1.out.below hW.out hg1).c0, (HT1.out.below hW.out hg1).c1, hW⟩
      have HDR : Hid (Below w1.heap.size w1 w1.drew) := (Below.refl _ _).drew
      clear hzI hnI HQ
      go_wp2
      go_cut [8, 9, 10] from 24 to 30 (fun _ s9 _ wc => ∃ b, s9 = .bool b ∧ Hid (b = true ↔ Fails F (negs z)) ∧ Hid (Below w1.heap.size w1 wc))
      case first =>
        go_region_held3 (fun W => W.cell? ⟨w.heap.size, 0, none⟩ = some (.int .i64 N) ∧ W.cell? ⟨w.heap.size, 1, none⟩ = some (.slice a F.length c) ∧ Hid (Below w1.heap.size w1 W)) (first | exact HH.out _ HDR | exact HH.out _ (by assumption))
          (first | (go_at_call 37; refine (KN.out _ (by assumption)).mono ?_; rintro e w3 ⟨ya, yc, rfl, hy, hb⟩) | (go_at_call 36; refine (KU.out _ _ _ (by assumption) (by assumption)).mono ?_; rintro e w4 ⟨v, bb, rfl, hbb, hb4⟩))
        all_goals (go_wp2_with fail; go_meet; exact ⟨bb, rfl, hbb, hb4⟩)
      case rest =>
        obtain ⟨w3, rfl⟩ : ∃ w3 : World, w3 = wc := ⟨_, rfl⟩
        obtain ⟨b, rfl, HBB, HB3⟩ := hcut
        have HB4 := Lib.hid (HB1.out.trans (HB3.out.mono HB1.out.size))
        clear c0 c1
        go_wp2
        go_ret2
        exact ⟨HB4.out, b, 0, rfl, .inl ⟨HD.out, rfl, HBB.out⟩⟩
    · have e1 : (q != 0) = true := by simp [hq0]
      have e2 : (q == 0) = false := by simp [hq0]
      clear c0 c1
      go_wp2
      go_ret2
      exact ⟨HB1.out, false, q, rfl, .inr ⟨by rw [HD.out]; exact hq0, HD.out.symm, rfl⟩⟩
  · obtain ⟨q, hq⟩ : ∃ q, checkF n F = q := ⟨_, rfl⟩
    have hd : dv n F [z] = q := by rw [dv_bad hf, hq]
    rw [hq] at hf
    rw [hq]
    have e1 : (q != 0) = true := by simp [hf]
    have e2 : (q == 0) = false := by simp [hf]
    have HD := Lib.hid hd
    have HQ := Lib.hid hf
    clear hd hq hf c0 c1
    go_wp2
    go_ret2
    exact ⟨HB1.out, false, q, rfl, .inr ⟨by rw [HD.out]; exact HQ.out, HD.out.symm, rfl⟩⟩
end Go.Proofs.Ytbljkbdbiceokaa
