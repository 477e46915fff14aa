/-
  DimacsBlank's walk.
-/
import Derived.Test.YtkannkalbhmlcaaDoorDimV
import Derived.Lib.SlicesS
namespace Go.Proofs.YtkannkalbhmlcaaDoor
open Go.RowKit Go.Lib
open Go.RowKit (Below)

def qF (qs : List Int) (t : Nat) : Nat := if qs.length = 0 then 0 else (qs.getD (t % qs.length) 0).toNat
theorem str_append (a b : List UInt8) : str a ++ str b = str (a ++ b) := by
  apply ByteArray.ext; simp [str]
theorem str_take {s : ByteArray} {k : Nat} (h : k < s.size) : s.extract k (k + 1) = str [s[k]] := by
  have e : W8 (s.extract k (k + 1)) = [s[k]] := by
    have h1 : (W8 s)[k]? = some s[k] := at_of h
    unfold W8 at h1 ⊢
    rw [ByteArray.data_extract, Array.toList_extract]
    obtain ⟨h2, h3⟩ := List.getElem?_eq_some_iff.1 h1
    rw [List.extract_eq_take_drop, show k + 1 - k = 1 by omega, List.take_one, List.head?_drop, h1]
    rfl
  have : str (W8 (s.extract k (k + 1))) = str [s[k]] := by rw [e]
  exact this
theorem fold_snoc {q : Nat → Nat} {l : List UInt8} {k : Nat} {b : UInt8} {st : Bl} (hb : l[k]? = some b) (h : (l.take k).foldl (stepBl q) bl0 = st) : (l.take (k + 1)).foldl (stepBl q) bl0 = stepBl q st b := by
  obtain ⟨h1, h2⟩ := List.getElem?_eq_some_iff.1 hb
  rw [List.take_succ_eq_append_getElem h1, List.foldl_append, h, h2]; rfl

set_option maxRecDepth 100000 in
set_option maxHeartbeats 8000000 in
theorem dimacsBlank_walk (w : World) (n : Int) (hn : (Lit.int .u8 n).wf = true) (a : Option Addr) (c : Nat) (zss : List (List Int)) (hR : RowsR .i8 w a zss) (hA : AllLen zss) (hm : zss.length ≤ maxLen) (hwf : ∀ z ∈ zss, ∀ x ∈ z, (Lit.int .i8 x).wf = true)
    (b : Option Addr) (d : Nat) (qs : List Int) (hQ : KI .u8 w b qs) (hqw : ∀ n ∈ qs, (Lit.int .u8 n).wf = true) (hqm : qs.length ≤ maxLen) (he : Env w) :
    Calls Tryd.prog 8 #[.int .u8 n, .slice a zss.length c, .slice b qs.length d] w fun e w' => e = .returned (.bool true) ∧ Below w.heap.size w w' := by
  obtain ⟨hn0, hn1⟩ := u8_range hn
  obtain ⟨V, hV⟩ : ∃ V : Int, 1 + n % 12 = V := ⟨_, rfl⟩
  have hV1 : 1 ≤ V := by omega
  have hV2 : V ≤ 12 := by omega
  have HA := Lib.hid hA
  have HR := Lib.hid hR
  have HW := Lib.hid hwf
  have HE := Lib.hid he
  have HQ := Lib.hid hQ
  have HQW := Lib.hid hqw
  unfold maxLen at hqm
  clear hA hR hwf he hn hQ hqw
  go_enter Tryd.func8, Tryd.ntmps8
  go_wp2_with fail
  refine (fit_any n V hn0 hn1 hV a c zss _ HR.out HA.out hm HW.out).mono ?_
  rintro e w1 (⟨hb, rfl, hB1⟩ | ⟨hb, a1, c1, rfl, hc1, hc2, hR1, hB1⟩)
  · have HB1 := Lib.hid (hB1.alloc hB1.size (.cells #[.int .i64 0, .slice none 0 0] 24))
    clear hB1
    go_wp2_with fail
    refine (known_any _ (HE.out.below HB1.out)).mono ?_
    rintro e w2 ⟨rfl, hB2⟩
    have HB2 := Lib.hid (HB1.out.trans (hB2.mono HB1.out.size))
    clear hB2
    go_wp2
    go_ret
    exact ⟨rfl, HB2.out⟩
  obtain ⟨L, hL⟩ : ∃ L, fitL V zss = L := ⟨_, rfl⟩
  obtain ⟨s, hs⟩ : ∃ s, str (formT V L) = s := ⟨_, rfl⟩
  rw [hL] at hR1
  have HF := Lib.hid (Two.new w1 (.int .i64 V) (.slice a1 zss.length c1))
  have HR1 := Lib.hid (hR1.alloc (.cells #[.int .i64 V, .slice a1 zss.length c1] 24))
  have HB1 := Lib.hid (hB1.alloc hB1.size (.cells #[.int .i64 V, .slice a1 zss.length c1] 24))
  have Hb := Lib.hid hb
  have HL := Lib.hid hL
  have HS := Lib.hid hs
  have hLl : zss.length = L.length := by rw [← hL]; exact (fitL_len V zss).symm
  have hsz : s.size ≤ 20000 := by rw [← hs, str_size, ← hL]; exact fitL_text hV1 hV2 hb
  have HLA : Hid (AllLen L) := by unfold Hid; rw [← hL]; exact fitL_all hb
  have hfm : Hid (L.length ≤ maxLen) := by unfold Hid; rw [← hLl]; exact hm
  have HX : Hid (∀ k q, (headT V L.length ++ joinQ q 0 (L.flatMap clauseW)).length ≤ 30000 ∧ parseB (preQ k ++ (headT V L.length ++ joinQ q 0 (L.flatMap clauseW))) = ⟨V, L, 0, 0⟩) := fun k q => by
    rw [← hL]; exact blank_fit hV1 hV2 hb k q
  rw [hLl] at HF HR1 HB1 ⊢
  clear hR1 hB1 hb hL hs hm
  have q0 := HF.out.c0
  have q1 := HF.out.c1
  go_wp2_with fail
  refine (form_is Hb.out hV1 hV2 HL.out HS.out hLl _ _ _ HR1.out (HE.out.below HB1.out)).mono ?_
  rintro e w2 ⟨rfl, hB2⟩
  have HF2 := Lib.hid (HF.out.below hB2 HF.out.lt)
  have HB2 := Lib.hid (HB1.out.trans (hB2.mono HB1.out.size))
  have HR2 := Lib.hid (HR1.out.below hB2)
  clear q0 q1 hB2 HF HR1 HB1
  go_wp2_with fail
  go_loopw [11, 12, 13, 14] (fun o h t i wr => ∃ (k : Nat) (out : List UInt8) (hd : Bool) (at' : Nat), k ≤ s.size ∧ i = .int .i64 k ∧ Hid (((W8 s).take k).foldl (stepBl (qF qs)) bl0 = ⟨out, hd, at'⟩) ∧ o = .string (str out) ∧ h = .bool hd ∧ t = .int .i64 at' ∧ out.length ≤ 14 * k ∧ at' ≤ k ∧ Hid (Below w.heap.size w wr) ∧ Hid (Two wr w1.heap.size (.int .i64 V) (.slice a1 L.length c1)) ∧ Hid (RowsR .i64 wr a1 L)) (fun _ _ _ i _ => s.size - (intOf i).toNat)
  case atStart => exact ⟨0, [], true, 0, Nat.zero_le _, rfl, rfl, rfl, rfl, rfl, by simp, by simp, HB2, HF2, HR2⟩
  case round =>
    clear HB2 HF2 HR2
    obtain ⟨k, out, hd, at', hk, rfl, HP, rfl, rfl, rfl, hol, hal, HB, HF, HRL⟩ := hrel
    by_cases hlt : k < s.size
    · have h1 : (k : Int) < (s.size : Int) := by omega
      have hat := at_of hlt
      have HN := Lib.hid (fold_snoc hat HP.out)
      have ht := str_take hlt
      have hap := str_append out
      have hap10 : str out ++ ⟨#[10]⟩ = str (out ++ [10]) := str_append out [10]
      have hss : (str out).size ≤ 280000 := by rw [str_size]; omega
      have hss1 : (str [s[k]]).size = 1 := by rw [str_size]; rfl
      clear hat
      cases hd
      · by_cases hs : s[k] = 32 ∨ s[k] = 10
        · have HN1 : Hid (((W8 s).take (k + 1)).foldl (stepBl (qF qs)) bl0 = ⟨out ++ oddT (qF qs at'), false, at' + 1⟩) := by
            unfold Hid; rw [HN.out]; unfold stepBl; simp only [Bool.false_eq_true, if_false]; rw [if_pos hs]
          have hb1 : ((s[k].toNat : Int) != 32) = false ∨ (((s[k].toNat : Int) != 32) = true ∧ ((s[k].toNat : Int) != 10) = false) := by
            rcases hs with e | e <;> rw [e]
            · exact .inl rfl
            · exact .inr ⟨rfl, rfl⟩
          have ho := odd_le (qF qs at')
          have hso : (str (oddT (qF qs at'))).size ≤ 14 := by rw [str_size]; exact ho
          clear HN ht hs hap10 hss1
          by_cases hq0 : qs.length = 0
          · have hq1 : qF qs at' = 0 := by unfold qF; rw [if_pos hq0]
            rw [hq1] at HN1 ho hso
            have hql : (qs.length : Int) ≤ 0 := by omega
            clear hq1 hq0
            rcases hb1 with hb1 | ⟨hb1, hb2⟩ <;>
            · go_wp2_with fail
              refine (odd_any 0 (by omega) _).mono ?_
              rintro e w4 ⟨rfl, hB4⟩
              have HB4 := Lib.hid (HB.out.trans (hB4.mono HB.out.size))
              have HF4 := Lib.hid (HF.out.below hB4 HF.out.lt)
              have HR4 := Lib.hid (HRL.out.below hB4)
              clear hB4 HB HF HRL
              go_wp2
              go_roundw
              case rel => exact ⟨k + 1, out ++ oddT 0, false, at' + 1, by omega, by go_num, HN1, rfl, rfl, by go_num, by rw [List.length_append]; omega, by omega, HB4, HF4, HR4⟩
              case measure => simp [intOf]; omega
          · rcases HQ.out with h0 | ⟨blk, off, rfl, hbl, hcell⟩
            · exact absurd h0 hq0
            obtain ⟨j, hj⟩ : ∃ j, at' % qs.length = j := ⟨_, rfl⟩
            have hjl : j < qs.length := by rw [← hj]; exact Nat.mod_lt _ (by omega)
            have hz := hcell j hjl
            obtain ⟨z, hzz⟩ : ∃ z, qs.getD j 0 = z := ⟨_, rfl⟩
            have hzw := u8_range (HQW.out z (by rw [← hzz, List.getD_eq_getElem?_getD, List.getElem?_eq_getElem hjl]; exact List.getElem_mem hjl))
            rw [hzz] at hz
            have hq1 : qF qs at' = z.toNat := by unfold qF; rw [if_neg hq0, hj, hzz]
            obtain ⟨N, hN⟩ : ∃ N : Nat, z = (N : Int) := ⟨z.toNat, by omega⟩
            subst hN
            rw [Int.toNat_natCast] at hq1
            rw [hq1] at HN1 ho hso
            have hzc := (HB.out.cell (p := ⟨blk, off + j, none⟩) hbl).trans hz
            have e2 : (at' : Int).tmod (qs.length : Int) = (j : Int) := by
              rw [Int.tmod_eq_emod_of_nonneg (by omega), ← hj]; simp
            have hql : ((0 : Int) < (qs.length : Int)) := by omega
            have hjl2 : ((j : Int) < (qs.length : Int)) := by omega
            clear hcell hz hq1 hzz hj
            rcases hb1 with hb1 | ⟨hb1, hb2⟩ <;>
            · go_wp2_with fail
              refine (odd_any N (by omega) _).mono ?_
              rintro e w4 ⟨rfl, hB4⟩
              have HB4 := Lib.hid (HB.out.trans (hB4.mono HB.out.size))
              have HF4 := Lib.hid (HF.out.below hB4 HF.out.lt)
              have HR4 := Lib.hid (HRL.out.below hB4)
              clear hB4 HB HF HRL hzc
              go_wp2
              go_roundw
              case rel => exact ⟨k + 1, out ++ oddT N, false, at' + 1, by omega, by go_num, HN1, rfl, rfl, by go_num, by rw [List.length_append]; omega, by omega, HB4, HF4, HR4⟩
              case measure => simp [intOf]; omega
        · have HN1 : Hid (((W8 s).take (k + 1)).foldl (stepBl (qF qs)) bl0 = ⟨out ++ [s[k]], false, at'⟩) := by
            unfold Hid; rw [HN.out]; unfold stepBl; simp only [Bool.false_eq_true, if_false]; rw [if_neg hs]
          have hb1 : ((s[k].toNat : Int) == 32) = false := by
            rw [beq_eq_false_iff_ne]; intro e; exact hs (.inl (UInt8.toNat_inj.1 (by have : (32 : UInt8).toNat = 32 := rfl; omega)))
          have hb2 : ((s[k].toNat : Int) == 10) = false := by
            rw [beq_eq_false_iff_ne]; intro e; exact hs (.inr (UInt8.toNat_inj.1 (by have : (10 : UInt8).toNat = 10 := rfl; omega)))
          have hb3 : ((s[k].toNat : Int) != 32) = true := by simp [bne, hb1]
          have hb4 : ((s[k].toNat : Int) != 10) = true := by simp [bne, hb2]
          clear HN hs hap10
          go_wp2
          go_roundw
          case rel => exact ⟨k + 1, out ++ [s[k]], false, at', by omega, by go_num, HN1, rfl, rfl, by go_num, by simp; omega, by omega, HB, HF, HRL⟩
          case measure => simp [intOf]; omega
      · by_cases hs : s[k] = 10
        · have HN1 : Hid (((W8 s).take (k + 1)).foldl (stepBl (qF qs)) bl0 = ⟨out ++ [10], false, at'⟩) := by
            unfold Hid; rw [HN.out]; unfold stepBl; simp only [if_true]; rw [if_pos hs]
          have hb : ((s[k].toNat : Int) == 10) = true := by rw [hs]; rfl
          have hb2 : ((s[k].toNat : Int) != 10) = false := by simp [bne, hb]
          clear HN hs ht hap
          go_wp2
          go_roundw
          case rel => exact ⟨k + 1, out ++ [10], false, at', by omega, by go_num, HN1, by first | rfl | rw [hap10], rfl, by go_num, by simp; omega, by omega, HB, HF, HRL⟩
          case measure => simp [intOf]; omega
        · have HN1 : Hid (((W8 s).take (k + 1)).foldl (stepBl (qF qs)) bl0 = ⟨out ++ [s[k]], true, at'⟩) := by
            unfold Hid; rw [HN.out]; unfold stepBl; simp only [if_true]; rw [if_neg hs]
          have hb : ((s[k].toNat : Int) == 10) = false := by
            rw [beq_eq_false_iff_ne]; intro e; exact hs (UInt8.toNat_inj.1 (by have : (10 : UInt8).toNat = 10 := rfl; omega))
          have hb2 : ((s[k].toNat : Int) != 10) = true := by simp [bne, hb]
          clear HN hs hap10
          go_wp2
          go_roundw
          case rel => exact ⟨k + 1, out ++ [s[k]], true, at', by omega, by go_num, HN1, rfl, rfl, by go_num, by simp; omega, by omega, HB, HF, HRL⟩
          case measure => simp [intOf]; omega
    · obtain rfl : k = s.size := by omega
      have hout : out = headT V L.length ++ joinQ (qF qs) 0 (L.flatMap clauseW) := by
        have h1 := HP.out
        rw [List.take_of_length_le (by rw [w8_len]; exact Nat.le_refl _), ← HS.out, w8_str, bl_form] at h1
        injection h1 with h2 _ _
        exact h2.symm
      have hol2 : (str out).size ≤ 30000 := by rw [str_size, hout]; exact (HX.out 0 (qF qs)).1
      have hbig : ∀ x : ByteArray, x.size ≤ 10 → (x ++ str out).size ≤ 1048576 := fun x hx => by rw [ByteArray.size_append]; omega
      have h1 : ¬ ((s.size : Int) < (s.size : Int)) := by omega
      clear HP hol hal
      by_cases hq0 : qs.length = 0
      · have HZ : Hid (parseB (W8 (str out)) = ⟨V, L, 0, 0⟩) := by
          have hx := (HX.out 0 (qF qs)).2
          rw [← hout] at hx
          unfold Hid; rw [w8_str]; exact hx
        have hbig : ∀ x : ByteArray, x.size ≤ 10 → (str out).size ≤ 1048576 := fun x hx => by omega
        have hql : (qs.length : Int) ≤ 0 := by omega
        clear hq0 hout
        have HB4 := HB
        have HR4 := HRL
        have HF4 := HF
        clear HB HRL HF
        go_wp2_with fail
        · refine (parse_is (o := ⟨V, L, 0, 0⟩) (l := L.length) HZ.out rfl _ (hbig ⟨#[]⟩ (by decide)) (HE.out.below HB4.out)).mono ?_
          rintro e w5 ⟨a5, c5, rfl, hR5, hB5⟩
          have HB5 := Lib.hid ((HB4.out.trans (hB5.mono HB4.out.size)).alloc (Nat.le_trans HB4.out.size hB5.size) (.cells #[.int .i64 V, .slice a5 L.length c5] 24))
          have HS5 := Lib.hid (hR5.alloc (.cells #[.int .i64 V, .slice a5 L.length c5] 24))
          have HR5 := Lib.hid ((HR4.out.below hB5).alloc (.cells #[.int .i64 V, .slice a5 L.length c5] 24))
          have HG5 := Lib.hid (Two.new w5 (.int .i64 V) (.slice a5 L.length c5))
          have HF5 := Lib.hid ((HF4.out.below hB5 HF4.out.lt).alloc (.cells #[.int .i64 V, .slice a5 L.length c5] 24))
          have hz5 : w1.heap.size < w5.heap.size := Nat.lt_of_lt_of_le HF4.out.lt hB5.size
          clear hB5 hR5 HB4 HR4 HF4
          have q0 := HF5.out.c0
          have q1 := HF5.out.c1
          have r0 := HG5.out.c0
          have r1 := HG5.out.c1
          go_wp2_with fail
          refine (equalFormula_is (n := V) (k := V) (xs := L) (ys := L) rfl rfl (eqFm_refl V L) _ _ _ _ _ hfm.out HLA.out HR5.out HS5.out).mono ?_
          rintro e w6 ⟨rfl, hB6⟩
          have HB6 := Lib.hid (HB5.out.trans (hB6.mono HB5.out.size))
          clear hB6 q0 q1 r0 r1 HB5 HR5 HS5 HF5 HG5
          go_wp2_with fail
          refine (known_any _ (HE.out.below HB6.out)).mono ?_
          rintro e w7 ⟨rfl, hB7⟩
          have HB7 := Lib.hid (HB6.out.trans (hB7.mono HB6.out.size))
          clear hB7
          go_wp2
          go_ret
          exact ⟨rfl, HB7.out⟩
      · rcases HQ.out with h0 | ⟨blk, off, rfl, hbl, hcell⟩
        · exact absurd h0 hq0
        have hz := hcell 0 (by omega)
        obtain ⟨z, hzz⟩ : ∃ z, qs.getD 0 0 = z := ⟨_, rfl⟩
        have hzw := u8_range (HQW.out z (by rw [← hzz, List.getD_eq_getElem?_getD, List.getElem?_eq_getElem (show 0 < qs.length by omega)]; exact List.getElem_mem (show 0 < qs.length by omega)))
        rw [hzz] at hz
        have hzc := (HB.out.cell (p := ⟨blk, off + 0, none⟩) hbl).trans hz
        have hzd : (wr.alloc (.cells #[.string ⟨#[]⟩, .string ⟨#[99, 10]⟩, .string ⟨#[10, 10]⟩, .string ⟨#[32, 10, 99, 32, 53, 32, 53, 32, 53, 10]⟩] 9)).cell? ⟨blk, off, none⟩ = some (.int .u8 z) := by
          have hx := (boxed wr (.cells #[.string ⟨#[]⟩, .string ⟨#[99, 10]⟩, .string ⟨#[10, 10]⟩, .string ⟨#[32, 10, 99, 32, 53, 32, 53, 32, 53, 10]⟩] 9)).cell (p := ⟨blk, off + 0, none⟩) (Nat.lt_of_lt_of_le hbl HB.out.size)
          exact hx.trans hzc
        rw [Nat.add_zero] at hzc
        obtain ⟨r, hr⟩ : ∃ r : Nat, z % 4 = r := ⟨(z % 4).toNat, by omega⟩
        have hr4 : r < 4 := by omega
        have e2 : z.tmod 4 = (r : Int) := by rw [Int.tmod_eq_emod_of_nonneg (by omega)]; omega
        have hql : ((0 : Int) < (qs.length : Int)) := by omega
        have HB4 := Lib.hid (HB.out.alloc HB.out.size (.cells #[.string ⟨#[]⟩, .string ⟨#[99, 10]⟩, .string ⟨#[10, 10]⟩, .string ⟨#[32, 10, 99, 32, 53, 32, 53, 32, 53, 10]⟩] 9))
        have HR4 := Lib.hid (HRL.out.alloc (.cells #[.string ⟨#[]⟩, .string ⟨#[99, 10]⟩, .string ⟨#[10, 10]⟩, .string ⟨#[32, 10, 99, 32, 53, 32, 53, 32, 53, 10]⟩] 9))
        have HF4 := Lib.hid (HF.out.alloc (.cells #[.string ⟨#[]⟩, .string ⟨#[99, 10]⟩, .string ⟨#[10, 10]⟩, .string ⟨#[32, 10, 99, 32, 53, 32, 53, 32, 53, 10]⟩] 9))
        have HBG := Lib.hid hbig
        clear hcell hz hzz hq0 HB HRL HF hr hbig
        match r, hr4 with
        | 0, _ =>
          have HZ : Hid (parseB (W8 (⟨#[]⟩ ++ str out)) = ⟨V, L, 0, 0⟩) := by
            have hx := (HX.out 0 (qF qs)).2
            rw [← hout] at hx
            have hy : W8 (⟨#[]⟩ ++ str out) = preQ 0 ++ out := by simp [W8, str, preQ]
            unfold Hid; rw [hy]; exact hx
          clear hout
          go_wp2_with fail
          refine (parse_is (o := ⟨V, L, 0, 0⟩) (l := L.length) HZ.out rfl _ (HBG.out _ (by decide)) (HE.out.below HB4.out)).mono ?_
          rintro e w5 ⟨a5, c5, rfl, hR5, hB5⟩
          have HB5 := Lib.hid ((HB4.out.trans (hB5.mono HB4.out.size)).alloc (Nat.le_trans HB4.out.size hB5.size) (.cells #[.int .i64 V, .slice a5 L.length c5] 24))
          have HS5 := Lib.hid (hR5.alloc (.cells #[.int .i64 V, .slice a5 L.length c5] 24))
          have HR5 := Lib.hid ((HR4.out.below hB5).alloc (.cells #[.int .i64 V, .slice a5 L.length c5] 24))
          have HG5 := Lib.hid (Two.new w5 (.int .i64 V) (.slice a5 L.length c5))
          have HF5 := Lib.hid ((HF4.out.below hB5 HF4.out.lt).alloc (.cells #[.int .i64 V, .slice a5 L.length c5] 24))
          have hz5 : w1.heap.size < w5.heap.size := Nat.lt_of_lt_of_le HF4.out.lt hB5.size
          clear hB5 hR5 HB4 HR4 HF4
          have q0 := HF5.out.c0
          have q1 := HF5.out.c1
          have r0 := HG5.out.c0
          have r1 := HG5.out.c1
          go_wp2_with fail
          refine (equalFormula_is (n := V) (k := V) (xs := L) (ys := L) rfl rfl (eqFm_refl V L) _ _ _ _ _ hfm.out HLA.out HR5.out HS5.out).mono ?_
          rintro e w6 ⟨rfl, hB6⟩
          have HB6 := Lib.hid (HB5.out.trans (hB6.mono HB5.out.size))
          clear hB6 q0 q1 r0 r1 HB5 HR5 HS5 HF5 HG5
          go_wp2_with fail
          refine (known_any _ (HE.out.below HB6.out)).mono ?_
          rintro e w7 ⟨rfl, hB7⟩
          have HB7 := Lib.hid (HB6.out.trans (hB7.mono HB6.out.size))
          clear hB7
          go_wp2
          go_ret
          exact ⟨rfl, HB7.out⟩
        | 1, _ =>
          have HZ : Hid (parseB (W8 (⟨#[99, 10]⟩ ++ str out)) = ⟨V, L, 0, 0⟩) := by
            have hx := (HX.out 1 (qF qs)).2
            rw [← hout] at hx
            have hy : W8 (⟨#[99, 10]⟩ ++ str out) = preQ 1 ++ out := by simp [W8, str, preQ]
            unfold Hid; rw [hy]; exact hx
          clear hout
          go_wp2_with fail
          refine (parse_is (o := ⟨V, L, 0, 0⟩) (l := L.length) HZ.out rfl _ (HBG.out _ (by decide)) (HE.out.below HB4.out)).mono ?_
          rintro e w5 ⟨a5, c5, rfl, hR5, hB5⟩
          have HB5 := Lib.hid ((HB4.out.trans (hB5.mono HB4.out.size)).alloc (Nat.le_trans HB4.out.size hB5.size) (.cells #[.int .i64 V, .slice a5 L.length c5] 24))
          have HS5 := Lib.hid (hR5.alloc (.cells #[.int .i64 V, .slice a5 L.length c5] 24))
          have HR5 := Lib.hid ((HR4.out.below hB5).alloc (.cells #[.int .i64 V, .slice a5 L.length c5] 24))
          have HG5 := Lib.hid (Two.new w5 (.int .i64 V) (.slice a5 L.length c5))
          have HF5 := Lib.hid ((HF4.out.below hB5 HF4.out.lt).alloc (.cells #[.int .i64 V, .slice a5 L.length c5] 24))
          have hz5 : w1.heap.size < w5.heap.size := Nat.lt_of_lt_of_le HF4.out.lt hB5.size
          clear hB5 hR5 HB4 HR4 HF4
          have q0 := HF5.out.c0
          have q1 := HF5.out.c1
          have r0 := HG5.out.c0
          have r1 := HG5.out.c1
          go_wp2_with fail
          refine (equalFormula_is (n := V) (k := V) (xs := L) (ys := L) rfl rfl (eqFm_refl V L) _ _ _ _ _ hfm.out HLA.out HR5.out HS5.out).mono ?_
          rintro e w6 ⟨rfl, hB6⟩
          have HB6 := Lib.hid (HB5.out.trans (hB6.mono HB5.out.size))
          clear hB6 q0 q1 r0 r1 HB5 HR5 HS5 HF5 HG5
          go_wp2_with fail
          refine (known_any _ (HE.out.below HB6.out)).mono ?_
          rintro e w7 ⟨rfl, hB7⟩
          have HB7 := Lib.hid (HB6.out.trans (hB7.mono HB6.out.size))
          clear hB7
          go_wp2
          go_ret
          exact ⟨rfl, HB7.out⟩
        | 2, _ =>
          have HZ : Hid (parseB (W8 (⟨#[10, 10]⟩ ++ str out)) = ⟨V, L, 0, 0⟩) := by
            have hx := (HX.out 2 (qF qs)).2
            rw [← hout] at hx
            have hy : W8 (⟨#[10, 10]⟩ ++ str out) = preQ 2 ++ out := by simp [W8, str, preQ]
            unfold Hid; rw [hy]; exact hx
          clear hout
          go_wp2_with fail
          refine (parse_is (o := ⟨V, L, 0, 0⟩) (l := L.length) HZ.out rfl _ (HBG.out _ (by decide)) (HE.out.below HB4.out)).mono ?_
          rintro e w5 ⟨a5, c5, rfl, hR5, hB5⟩
          have HB5 := Lib.hid ((HB4.out.trans (hB5.mono HB4.out.size)).alloc (Nat.le_trans HB4.out.size hB5.size) (.cells #[.int .i64 V, .slice a5 L.length c5] 24))
          have HS5 := Lib.hid (hR5.alloc (.cells #[.int .i64 V, .slice a5 L.length c5] 24))
          have HR5 := Lib.hid ((HR4.out.below hB5).alloc (.cells #[.int .i64 V, .slice a5 L.length c5] 24))
          have HG5 := Lib.hid (Two.new w5 (.int .i64 V) (.slice a5 L.length c5))
          have HF5 := Lib.hid ((HF4.out.below hB5 HF4.out.lt).alloc (.cells #[.int .i64 V, .slice a5 L.length c5] 24))
          have hz5 : w1.heap.size < w5.heap.size := Nat.lt_of_lt_of_le HF4.out.lt hB5.size
          clear hB5 hR5 HB4 HR4 HF4
          have q0 := HF5.out.c0
          have q1 := HF5.out.c1
          have r0 := HG5.out.c0
          have r1 := HG5.out.c1
          go_wp2_with fail
          refine (equalFormula_is (n := V) (k := V) (xs := L) (ys := L) rfl rfl (eqFm_refl V L) _ _ _ _ _ hfm.out HLA.out HR5.out HS5.out).mono ?_
          rintro e w6 ⟨rfl, hB6⟩
          have HB6 := Lib.hid (HB5.out.trans (hB6.mono HB5.out.size))
          clear hB6 q0 q1 r0 r1 HB5 HR5 HS5 HF5 HG5
          go_wp2_with fail
          refine (known_any _ (HE.out.below HB6.out)).mono ?_
          rintro e w7 ⟨rfl, hB7⟩
          have HB7 := Lib.hid (HB6.out.trans (hB7.mono HB6.out.size))
          clear hB7
          go_wp2
          go_ret
          exact ⟨rfl, HB7.out⟩
        | 3, _ =>
          have HZ : Hid (parseB (W8 (⟨#[32, 10, 99, 32, 53, 32, 53, 32, 53, 10]⟩ ++ str out)) = ⟨V, L, 0, 0⟩) := by
            have hx := (HX.out 3 (qF qs)).2
            rw [← hout] at hx
            have hy : W8 (⟨#[32, 10, 99, 32, 53, 32, 53, 32, 53, 10]⟩ ++ str out) = preQ 3 ++ out := by simp [W8, str, preQ]
            unfold Hid; rw [hy]; exact hx
          clear hout
          go_wp2_with fail
          refine (parse_is (o := ⟨V, L, 0, 0⟩) (l := L.length) HZ.out rfl _ (HBG.out _ (by decide)) (HE.out.below HB4.out)).mono ?_
          rintro e w5 ⟨a5, c5, rfl, hR5, hB5⟩
          have HB5 := Lib.hid ((HB4.out.trans (hB5.mono HB4.out.size)).alloc (Nat.le_trans HB4.out.size hB5.size) (.cells #[.int .i64 V, .slice a5 L.length c5] 24))
          have HS5 := Lib.hid (hR5.alloc (.cells #[.int .i64 V, .slice a5 L.length c5] 24))
          have HR5 := Lib.hid ((HR4.out.below hB5).alloc (.cells #[.int .i64 V, .slice a5 L.length c5] 24))
          have HG5 := Lib.hid (Two.new w5 (.int .i64 V) (.slice a5 L.length c5))
          have HF5 := Lib.hid ((HF4.out.below hB5 HF4.out.lt).alloc (.cells #[.int .i64 V, .slice a5 L.length c5] 24))
          have hz5 : w1.heap.size < w5.heap.size := Nat.lt_of_lt_of_le HF4.out.lt hB5.size
          clear hB5 hR5 HB4 HR4 HF4
          have q0 := HF5.out.c0
          have q1 := HF5.out.c1
          have r0 := HG5.out.c0
          have r1 := HG5.out.c1
          go_wp2_with fail
          refine (equalFormula_is (n := V) (k := V) (xs := L) (ys := L) rfl rfl (eqFm_refl V L) _ _ _ _ _ hfm.out HLA.out HR5.out HS5.out).mono ?_
          rintro e w6 ⟨rfl, hB6⟩
          have HB6 := Lib.hid (HB5.out.trans (hB6.mono HB5.out.size))
          clear hB6 q0 q1 r0 r1 HB5 HR5 HS5 HF5 HG5
          go_wp2_with fail
          refine (known_any _ (HE.out.below HB6.out)).mono ?_
          rintro e w7 ⟨rfl, hB7⟩
          have HB7 := Lib.hid (HB6.out.trans (hB7.mono HB6.out.size))
          clear hB7
          go_wp2
          go_ret
          exact ⟨rfl, HB7.out⟩
        | n + 4, h => omega
end Go.Proofs.YtkannkalbhmlcaaDoor
