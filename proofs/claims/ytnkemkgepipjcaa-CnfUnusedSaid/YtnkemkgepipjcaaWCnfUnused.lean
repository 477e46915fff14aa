/-
  CnfUnused' walk.
-/
import Derived.Test.YtnkemkgepipjcaaCnfF
import Derived.Test.YtnkemkgepipjcaaCnfG
import Derived.Deep.RegionHeld3
import Derived.Deep.AppendLies
import Derived.Deep.DrawnRows
namespace Go.Proofs.Ytnkemkgepipjcaa
open Go.RowKit Go.Lib
open Go.RowKit (Below)
attribute [local go_sem ↓] Go.wp_at_zero Go.wp_at_succ

theorem holdsL_last {m : List Bool} {x : Int} (b : Bool) (h0 : x ≠ 0) (h1 : -(m.length : Int) ≤ x) (h2 : x ≤ m.length) (hm : m.length ≤ 4096) : holdsL (m ++ [b]) x = holdsL m x := by
  obtain ⟨n, hn⟩ : ∃ n : Nat, au x = (n : Int) + 1 := by
    rw [au_abs x (by omega) (by omega)]
    split
    · exact ⟨(-x - 1).toNat, by omega⟩
    · exact ⟨(x - 1).toNat, by omega⟩
  have hl : n < m.length := by
    rw [au_abs x (by omega) (by omega)] at hn
    split at hn <;> omega
  rw [holdsL_at m x n _ hn (List.getElem?_eq_getElem hl), holdsL_at (m ++ [b]) x n m[n] hn (by rw [List.getElem?_append_left hl]; exact List.getElem?_eq_getElem hl)]
theorem any_last {m : List Bool} {z : List Int} (b : Bool) (hz : ∀ x ∈ z, -(m.length : Int) ≤ x ∧ x ≤ m.length ∧ x ≠ 0) (hm : m.length ≤ 4096) : z.any (holdsL (m ++ [b])) = z.any (holdsL m) := by
  rw [Bool.eq_iff_iff, List.any_eq_true, List.any_eq_true]
  constructor
  · rintro ⟨x, hx, h⟩
    obtain ⟨a1, a2, a3⟩ := hz x hx
    exact ⟨x, hx, by rw [← holdsL_last b a3 a1 a2 hm]; exact h⟩
  · rintro ⟨x, hx, h⟩
    obtain ⟨a1, a2, a3⟩ := hz x hx
    exact ⟨x, hx, by rw [holdsL_last b a3 a1 a2 hm]; exact h⟩
theorem firstI_last {m : List Bool} {L : List (List Int)} (b : Bool) (hL : ∀ z ∈ L, ∀ x ∈ z, -(m.length : Int) ≤ x ∧ x ≤ m.length ∧ x ≠ 0) (hm : m.length ≤ 4096) : firstI (m ++ [b]) L = firstI m L := by
  rcases firstI_spec m L with ⟨h, h1⟩ | ⟨t, h, ht, h1, h2⟩
  · rw [h]
    exact firstI_none fun j z _ hz => by rw [any_last b (hL z (List.mem_of_getElem? hz)) hm]; exact h1 j z hz
  · rw [h]
    exact firstI_at (z := L[t]) (fun j z hj hz => by rw [any_last b (hL z (List.mem_of_getElem? hz)) hm]; exact h1 j z hj hz) (List.getElem?_eq_getElem ht) (by rw [any_last b (hL _ (List.getElem_mem ht)) hm]; exact h2 _ (List.getElem?_eq_getElem ht))
theorem fitL_range' {V : Int} (h1 : 1 ≤ V) {zss : List (List Int)} : ∀ z ∈ fitL V zss, ∀ x ∈ z, -V ≤ x ∧ x ≤ V ∧ x ≠ 0 := by
  intro z hz
  obtain ⟨y, _, rfl⟩ := List.mem_map.1 hz
  exact fitZ_range V h1 y
/-- What a row of bools of the call's own reads as. -/
theorem bools_own {w : World} {B g n c : Nat} {bs : List Bool} (h : w.ownsRow B 4 1 (.slice (some ⟨g, 0, none⟩) n c) n (bs.map Value.bool)) (hn : n = bs.length) : BoolsR w (some ⟨g, 0, none⟩) bs := by
  subst hn
  by_cases h0 : bs.length = 0
  · exact .inl h0
  refine .inr ⟨g, 0, rfl, (h.lt g rfl).2, fun j hj => ?_⟩
  rw [Nat.zero_add, World.ownsRow.cellAt h j (by omega), List.getElem?_map, getD_some _ false j hj]; rfl
theorem one_bool {x : Bool} : ∀ u ∈ [Value.bool x], u.oneCell' = true := by
  intro u hu; simp at hu; subst hu; rfl

set_option maxRecDepth 100000 in
set_option maxHeartbeats 4000000 in
theorem cnfUnused_walk (w : World) (n : Int) (hn : (Lit.int .u8 n).wf = true) (a : Option Addr) (c : Nat) (zss : List (List Int)) (hR : RowsR .i8 w a zss) (hA : AllLen zss) (hm : zss.length ≤ maxLen) (hw : ∀ z ∈ zss, ∀ n ∈ z, (Lit.int .i8 n).wf = true)
    (bits : Int) (hb : (Lit.int .u16 bits).wf = true) (last : Bool) :
    Calls Try.prog 10 #[.int .u8 n, .slice a zss.length c, .int .u16 bits, .bool last] w fun e w' => e = .returned (.bool true) ∧ Below w.heap.size w w' := by
  obtain ⟨hn0, hn1⟩ := u8_range hn
  obtain ⟨hb0, hb1⟩ := u16_range hb
  obtain ⟨N, hN⟩ : ∃ N : Nat, 1 + n % 12 = (N : Int) := ⟨(1 + n % 12).toNat, by omega⟩
  have hN1 : 1 ≤ N := by omega
  have hN2 : N ≤ 12 := by omega
  have HF := Lib.hid (fit_any n N hn0 hn1 hN a c zss w hR hA hm hw)
  clear hN hR hA hm hw hn hb
  obtain ⟨j0, hj, hy0, hy1, hy2⟩ := info_parts Try.info4
  go_enter Try.func10, Try.ntmps10
  go_wp2_with fail
  refine HF.out.mono ?_
  rintro e w1 (⟨hf, rfl, hB1⟩ | ⟨hf, a1, c1, rfl, hcap, hnil, hR1, hB1⟩)
  · have HB1 := Lib.hid (hB1.alloc hB1.size (.cells #[.int .i64 0, .slice none 0 0] 24))
    clear hB1 hf
    go_wp2_with fail
    refine (known_any _).mono ?_
    rintro e w2 ⟨rfl, hB2⟩
    have HB2 := Lib.hid (HB1.out.trans (hB2.mono HB1.out.size))
    clear hB2
    go_wp2
    go_ret
    exact ⟨rfl, HB2.out⟩
  · have hz := (fitB_parts hf).1
    have hzr := (fitB_parts hf).2
    have HL := Lib.hid (fitL_len N zss)
    have HC := Lib.hid (fitL_check (V := N) (W := N) (by omega) (by omega) (by omega) (by omega) hf)
    have HC2 := Lib.hid (fitL_check (V := N) (W := (N : Int) + 1) (by omega) (by omega) (by omega) (by omega) hf)
    have HA := Lib.hid (fitL_all (V := N) hf)
    have HRG := Lib.hid (fitL_range' (V := N) (by omega) (zss := zss))
    have H20 : Hid (∀ z ∈ fitL N zss, z.length ≤ 1000) := by
      intro z hz'
      obtain ⟨y, hy, rfl⟩ := List.mem_map.1 hz'
      exact Nat.le_trans (fitZ_le _ _) (Nat.le_trans (hzr y hy) (by omega))
    have HR1 := Lib.hid (hR1.alloc (.cells #[.int .i64 N, .slice a1 zss.length c1] 24))
    have HB1 := Lib.hid (hB1.alloc hB1.size (.cells #[.int .i64 N, .slice a1 zss.length c1] 24))
    have HT := Lib.hid (Two.new w1 (.int .i64 N) (.slice a1 zss.length c1))
    generalize fitL N zss = L at HL HC HA HR1 HC2 HRG H20
    have hsw := hB1.size
    clear hB1 hR1 hf HF hzr hcap hnil
    go_wp2_with fail
    refine (model_any N (by omega) bits _ hb0 hb1).mono ?_
    rintro e w2 ⟨m, gm, hml, rfl, hM, hB2⟩
    have hw1 : w.heap.size ≤ w1.heap.size := hsw
    have hbase : (w1.alloc (.cells #[.int .i64 N, .slice a1 zss.length c1] 24)).heap.size = w1.heap.size + 1 := by simp
    rw [hbase] at hM
    have hgm := hM.lt gm rfl
    have hgm1 : w1.heap.size + 1 ≤ gm := hgm.1
    have hgm2 := hgm.2
    have HT2 := Lib.hid (HT.out.below hB2 (by simp))
    have hX := firstN_in (m := m) HC.out (by rw [hml])
    have hY := firstN_in (m := m ++ [last]) HC2.out (by rw [List.length_append, hml]; rfl)
    obtain ⟨t, ht⟩ : ∃ t, firstI m L = t := ⟨_, rfl⟩
    rw [ht] at hX
    rw [firstI_last last (by rw [hml]; exact HRG.out) (by omega), ht] at hY
    have HX1 := Lib.hid hX.1
    have HX2 := Lib.hid hX.2
    have HY1 := Lib.hid hY.1
    have HY2 := Lib.hid hY.2
    have HML := Lib.hid hml
    have HML2 : Hid ((m ++ [last]).length = N + 1) := by unfold Hid; rw [List.length_append, hml]; rfl
    have HM := Lib.hid hM
    have HR2 := Lib.hid (HR1.out.below hB2)
    have HB2 := Lib.hid (HB1.out.trans (hB2.mono HB1.out.size))
    have hg1 : w1.heap.size < w2.heap.size := HT2.out.lt
    have c0 := HT2.out.c0
    have c1' := HT2.out.c1
    clear hX hY ht hml hM hB2 HR1 HB1 HT hgm hbase hsw
    go_wp2_with fail
    refine (first_is HL.out HML.out HX1.out HX2.out _ _ _ _ _ (by unfold maxLen; omega) HA.out (by unfold maxLen; omega) HR2.out HM.out.reads).mono ?_
    rintro e w3 ⟨rfl, hB3⟩
    have HT3 := Lib.hid (HT2.out.below hB3 hg1)
    have HM3 := Lib.hid (HM.out.below hB3)
    have HR3 := Lib.hid (HR2.out.below hB3)
    have HB3 := Lib.hid (HB2.out.trans (hB3.mono HB2.out.size))
    have hs3 : w2.heap.size ≤ w3.heap.size := hB3.size
    clear hB3 c0 c1' HM HR2 HB2 HT2
    have c0 := HT3.out.c0
    have c1' := HT3.out.c1
    go_wp2_with fail
    refine (copyFormula_is HL.out _ _ _ _ (by omega) H20.out HR3.out).mono ?_
    rintro e w4 ⟨a4, c4, rfl, hbt, hB4⟩
    have HBT := Lib.hid (hbt.below (boxed w4 (.cells #[.int .i64 ((N : Int) + 1), .slice a4 zss.length c4] 24)))
    have HM4 := Lib.hid ((HM3.out.below hB4).below (boxed w4 (.cells #[.int .i64 ((N : Int) + 1), .slice a4 zss.length c4] 24)))
    have HB4 := Lib.hid ((HB3.out.trans (hB4.mono HB3.out.size)).alloc (by have := HB3.out.size; have := hB4.size; omega) (.cells #[.int .i64 ((N : Int) + 1), .slice a4 zss.length c4] 24))
    have HG4 := Lib.hid (Two.new w4 (.int .i64 ((N : Int) + 1)) (.slice a4 zss.length c4))
    have hs4 : w3.heap.size ≤ w4.heap.size := hB4.size
    clear hbt hB4 c0 c1' HM3 HR3 HB3 HT3
    go_wp2
    have hs5 : w4.heap.size < (w4.alloc (.cells #[.int .i64 ((N : Int) + 1), .slice a4 zss.length c4] 24)).heap.size := by simp
    generalize w4.alloc (.cells #[.int .i64 ((N : Int) + 1), .slice a4 zss.length c4] 24) = w5 at HBT HM4 HB4 HG4 hs5 ⊢
    have HM5 : Hid (w5.ownsRow (w1.heap.size + 1) 4 1 (.slice (some ⟨gm, 0, none⟩) N N) N (m.map Value.bool)) := by
      have h := HM4.out
      unfold MRow at h
      rw [HML.out] at h
      exact h
    have HS : Hid (∀ w', Two w' w4.heap.size (.int .i64 ((N : Int) + 1)) (.slice a4 zss.length c4) → w'.cell? ⟨w4.heap.size, 0, none⟩ = some (.int .i64 ((N : Int) + 1)) ∧ w'.cell? ⟨w4.heap.size, 1, none⟩ = some (.slice a4 zss.length c4)) := fun w' h => ⟨h.c0, h.c1⟩
    have HG5 : Hid (Two w5.drew w4.heap.size (.int .i64 ((N : Int) + 1)) (.slice a4 zss.length c4)) := HG4.out.below ((Below.refl _ _).drew) hs5
    have HG5a : Hid (Two (w5.alloc (.cells #[.bool last] 4)).drew w4.heap.size (.int .i64 ((N : Int) + 1)) (.slice a4 zss.length c4)) := Two.below (B := w4.heap.size + 1) (HG4.out.alloc _) ((Below.refl _ _).drew) (by omega)
    have HX : Hid (∀ w7, (w5.alloc (.cells #[.bool last] 4)).drew.grownBy w7 (some gm) → Two w7 w4.heap.size (.int .i64 ((N : Int) + 1)) (.slice a4 zss.length c4) ∧ RowsR .i64 w7 a4 L ∧ Below w.heap.size w w7) := by
      intro w7 hgrow
      have hd : Below w5.heap.size w5 (w5.alloc (.cells #[.bool last] 4)).drew := (boxed w5 _).drew
      refine ⟨HG5a.out.grown hgrow (by simp; omega), ?_, ((HB4.out.alloc (by omega) (.cells #[.bool last] 4)).drew).grown hgrow (by have := hd.size; omega) (fun j e => by injection e with e; omega)⟩
      have h : Built w7 w3.heap.size (.slice a4 zss.length c4) L := (HBT.out.below hd).stays hgrow.size fun k hk1 hk2 => hgrow.block k hk2 (by intro e; injection e with e; omega)
      obtain ⟨a', c', e, _, _, _, h2⟩ := h.rows
      injection e with e1 _ _
      rw [e1]; exact h2
    have HY : Hid (∀ w7 g9 cap9, w7.ownsRow (w1.heap.size + 1) 4 1 (.slice (some ⟨g9, 0, none⟩) (N + 1) cap9) (N + 1) (m.map Value.bool ++ [Value.bool last]) → BoolsR w7 (some ⟨g9, 0, none⟩) (m ++ [last])) := by
      intro w7 g9 cap9 hown
      refine bools_own (B := w1.heap.size + 1) (n := N + 1) (c := cap9) ?_ HML2.out.symm
      rw [List.map_append]; exact hown
    have HAP : Hid (N + 1 ≤ maxLen ∧ (N + 1) * 1 ≤ 140737488355328 ∧ w1.heap.size + 1 ≤ (w5.alloc (.cells #[.bool last] 4)).drew.heap.size) := ⟨by unfold maxLen; omega, by omega, by
      have hd : Below w5.heap.size w5 (w5.alloc (.cells #[.bool last] 4)).drew := (boxed w5 _).drew
      have := hd.size
      omega⟩
    clear HM4 HB4 HG4 HBT
    go_region_held3 (fun w' => w'.cell? ⟨w4.heap.size, 0, none⟩ = some (.int .i64 ((N : Int) + 1)) ∧ w'.cell? ⟨w4.heap.size, 1, none⟩ = some (.slice a4 zss.length c4))
      (first | exact HS.out _ HG5.out | exact HS.out _ HG5a.out | exact HS.out _ (HX.out _ hgrow).1 | exact HS.out _ (Two.below (HX.out _ hgrow).1 hB8 (HX.out _ hgrow).1.lt))
      (first | (refine step_append_lies _ (by rfl) _ _ 29 (by rfl) (w1.heap.size + 1) 4 j0 (.bool false) 1 1 Try.underlying29 hj hy0 hy1 hy2 rfl (by omega) (.slice (some ⟨gm, 0, none⟩) N N) N (m.map Value.bool) (by rfl) ((World.ownsRow.alloc HM5.out _).drew) ⟨w5.heap.size, 0, none⟩ 1 1 [.bool last] (by rfl) (by rfl) (World.news_of_block (cs := #[.bool last]) (t := 4) (fr := (0, 0)) (heap_alloc_new w5 _)) one_bool (by omega) HAP.out.1 HAP.out.2.1 HAP.out.2.2 (w5.heap.size + 1) (by simp) ?_; intro g9 cap9 w7 hown9 hgrow hat hlt) | (go_at_call 15; refine (first_is HL.out HML2.out HY1.out HY2.out _ _ _ _ _ (by unfold maxLen; omega) HA.out (by unfold maxLen; omega) (HX.out _ hgrow).2.1 (HY.out _ _ _ hown9)).mono ?_; rintro e w8 ⟨rfl, hB8⟩))
    have HG7 := Lib.hid (HX.out _ hgrow).1
    have HR7 := Lib.hid (HX.out _ hgrow).2.1
    have HB7 := Lib.hid (HX.out _ hgrow).2.2
    have hs7 : w4.heap.size < w7.heap.size := HG7.out.lt
    clear HX HY hgrow hown9
    have HG8 := Lib.hid (HG7.out.below hB8 hs7)
    have HR8 := Lib.hid (HR7.out.below hB8)
    have HB8 := Lib.hid (HB7.out.trans (hB8.mono HB7.out.size))
    clear hB8 HG7 HR7 HB7
    have c0 := HG8.out.c0
    have c1' := HG8.out.c1
    have et : (t == t) = true := by simp
    go_wp2_with fail
    refine (checkF_is HL.out HC2.out _ _ _ (by unfold maxLen; omega) HA.out HR8.out).mono ?_
    rintro e w9 ⟨rfl, hB9⟩
    have HB9 := Lib.hid (HB8.out.trans (hB9.mono HB8.out.size))
    clear hB9 c0 c1' HG8 HR8 HB8
    go_wp2_with fail
    refine (known_any _).mono ?_
    rintro e w10 ⟨rfl, hB10⟩
    have HB10 := Lib.hid (HB9.out.trans (hB10.mono HB9.out.size))
    clear hB10
    go_wp2
    go_ret
    exact ⟨rfl, HB10.out⟩
end Go.Proofs.Ytnkemkgepipjcaa
