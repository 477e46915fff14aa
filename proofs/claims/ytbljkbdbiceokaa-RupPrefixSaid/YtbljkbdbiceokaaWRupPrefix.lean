/-
  RupPrefix: the index of a clause that is not implied is the same for the clauses up to it.
-/
import Derived.Test.YtbljkbdbiceokaaRupU
import Derived.Deep.RegionHeld3
import Derived.Deep.DrawnRows
import Derived.Deep.CutRange
namespace Go.Proofs.Ytbljkbdbiceokaa
open Go.RowKit Go.Lib
open Go.RowKit (Below)

set_option maxRecDepth 100000 in
set_option maxHeartbeats 8000000 in
theorem rupPrefix_walk (w : World) (n : Int) (hn : (Lit.int .u8 n).wf = true) (a : Option Addr) (c : Nat) (zss : List (List Int)) (hR : RowsR .i8 w a zss) (hA : AllLen zss) (hm : zss.length ≤ maxLen) (hwf : ∀ z ∈ zss, ∀ x ∈ z, (Lit.int .i8 x).wf = true)
    (b : Option Addr) (d : Nat) (pss : List (List Int)) (hQ : RowsR .i8 w b pss) (hQA : AllLen pss) (hqm : pss.length ≤ maxLen) (hqw : ∀ z ∈ pss, ∀ x ∈ z, (Lit.int .i8 x).wf = true) :
    Calls Try.prog 10 #[.int .u8 n, .slice a zss.length c, .slice b pss.length d] w fun e w' => e = .returned (.bool true) ∧ Below w.heap.size w w' := by
  obtain ⟨hn0, hn1⟩ := u8_range hn
  obtain ⟨V, hV⟩ : ∃ V : Nat, 1 + n % 12 = (V : Int) := ⟨(1 + n % 12).toNat, by omega⟩
  have hV1 : 1 ≤ V := by omega
  have hV2 : V ≤ 12 := by omega
  have HF := Lib.hid (fit_any n V hn0 hn1 hV a c zss w hR hA hm hwf)
  have HCL : Hid (∀ fv W, Below w.heap.size w W → Calls Try.prog 23 #[.agg #[.int .i64 V, fv], .slice b pss.length d] W fun e w' => Below W.heap.size W w' ∧
      ((fitB pss = false ∧ e = .returned (.tuple #[.slice none 0 0, .bool false])) ∨ (fitB pss = true ∧ ∃ pa pc, e = .returned (.tuple #[.slice pa pss.length pc, .bool true]) ∧ pss.length ≤ pc ∧ RowsR .i64 w' pa (fitL V pss)))) :=
    fun fv W hB => clauses_any V hV1 hV2 fv b d pss W (hQ.below hB) hQA hqm hqw
  obtain ⟨j0, hj, hy0, hy1, hy2⟩ := info_parts Try.info23
  clear hV hR hA hm hwf hn hn0 hn1 hQ hQA hqm hqw
  go_enter Try.func10, Try.ntmps10
  go_wp2_with fail
  refine HF.out.mono ?_
  rintro e w1 (⟨hf, rfl, hB1⟩ | ⟨hf, a1, c1, rfl, _, _, hR1, hB1⟩)
  · have HB1 := Lib.hid (hB1.alloc hB1.size (.cells #[.int .i64 0, .slice none 0 0] 26))
    clear hB1 hf
    go_wp2_with fail
    refine (knownR_any _).mono ?_
    rintro e w2 ⟨rfl, hB2⟩
    have HB2 := Lib.hid (HB1.out.trans (hB2.mono HB1.out.size))
    clear hB2
    go_wp2
    go_ret
    exact ⟨rfl, HB2.out⟩
  · have HL := Lib.hid (fit_ok hV1 hV2 hf)
    have HLl := Lib.hid (fitL_len (V : Int) zss)
    have hzl : zss.length ≤ 30 := (fitB_parts hf).1
    have HR1 := Lib.hid (hR1.alloc (.cells #[.int .i64 V, .slice a1 zss.length c1] 26))
    have HB1 := Lib.hid (hB1.alloc hB1.size (.cells #[.int .i64 V, .slice a1 zss.length c1] 26))
    have HT := Lib.hid (Two.new w1 (.int .i64 V) (.slice a1 zss.length c1))
    generalize fitL (V : Int) zss = L at HL HLl HR1
    clear hB1 hR1 hf HF
    go_wp2_with fail
    refine (HCL.out _ _ HB1.out).mono ?_
    rintro e w2 ⟨hB2, (⟨hf, rfl⟩ | ⟨hf, pa, pc, rfl, hpc, hQ2⟩)⟩
    · have HB2 := Lib.hid (HB1.out.trans (hB2.mono HB1.out.size))
      clear hB2 hf
      go_wp2_with fail
      refine (knownR_any _).mono ?_
      rintro e w3 ⟨rfl, hB3⟩
      have HB3 := Lib.hid (HB2.out.trans (hB3.mono HB2.out.size))
      clear hB3
      go_wp2
      go_ret
      exact ⟨rfl, HB3.out⟩
    have HP := Lib.hid (fit_ok hV1 hV2 hf)
    have HPl := Lib.hid (fitL_len (V : Int) pss)
    have hpl : pss.length ≤ 30 := (fitB_parts hf).1
    have HQ2 := Lib.hid hQ2
    have HPC := Lib.hid hpc
    have HT2 := Lib.hid (HT.out.below hB2 (by simp))
    have HR2 := Lib.hid (HR1.out.below hB2)
    have HB2 := Lib.hid (HB1.out.trans (hB2.mono HB1.out.size))
    have hg2 : w1.heap.size < w2.heap.size := HT2.out.lt
    generalize fitL (V : Int) pss = P at HP HPl HQ2 hQ2
    have c0 := HT2.out.c0
    have c1' := HT2.out.c1
    clear hB2 hf hQ2 hpc HB1 HR1 HT HCL
    go_wp2_with fail
    refine (checkOf' hV2 HL.out HP.out HR2.out HQ2.out (by rw [HPl.out]; exact HPC.out) HLl.out HPl.out).mono ?_
    rintro e w4 ⟨hB4, v, rfl, hv⟩
    have HT4 := Lib.hid (HT2.out.below hB4 hg2)
    have HR4 := Lib.hid (HR2.out.below hB4)
    have HQ4 := Lib.hid (HQ2.out.below hB4)
    have HB4 := Lib.hid (HB2.out.trans (hB4.mono HB2.out.size))
    have hg4 : w1.heap.size < w4.heap.size := HT4.out.lt
    have HV := Lib.hid hv
    have e1 : decide (v < -1) = false := by
      rcases chk_range hv with rfl | ⟨k, rfl, _⟩
      · rfl
      · exact decide_eq_false (by omega)
    have e2 : decide ((pss.length : Int) < v) = false := by
      rcases chk_range hv with rfl | ⟨k, rfl, hk⟩
      · exact decide_eq_false (by omega)
      · exact decide_eq_false (by have := HPl.out; omega)
    clear hB4 hv HB2 HQ2 HR2 HT2 c0 c1' hg2
    have c0 := HT4.out.c0
    have c1' := HT4.out.c1
    go_wp2_with fail
    refine (copyFormula_is HLl.out _ _ _ _ (by omega) (fun z hz => by have := HL.out.2.1 z hz; omega) HR4.out).mono ?_
    rintro e w5 ⟨a5, c5, rfl, hbt, hB5⟩
    have HM5 : Hid (MixB w4 (w5.alloc (.cells #[.int .i64 V, .slice a5 zss.length c5] 26)) w5.heap.size V (.slice a5 zss.length c5) (L ++ P.take 0)) := by
      unfold Hid
      rw [List.take_zero, List.append_nil]
      exact MixB.first hbt hB5
    clear hbt hB5 c0 c1' e1 e2
    go_wp2
    obtain ⟨w6, hw6⟩ : ∃ w6, w5.alloc (.cells #[.int .i64 V, .slice a5 zss.length c5] 26) = w6 := ⟨_, rfl⟩
    rw [hw6] at HM5
    rw [hw6]
    clear hw6
    obtain ⟨F, hF⟩ : ∃ F, w5.heap.size = F := ⟨_, rfl⟩
    rw [hF] at HM5
    rw [hF]
    clear hF
    go_loopw [13, 14, 15] (fun i _ _ wr => ∃ (q : Nat) (vv : Value), i = .int .i64 q ∧ q ≤ pss.length ∧ Hid (∀ j, j < q → GoodAt L P j) ∧ Hid (MixB w4 wr F V vv (L ++ P.take q))) (fun i _ _ _ => pss.length - (intOf i).toNat)
    case atStart => exact ⟨0, _, rfl, Nat.zero_le _, fun j hj => absurd hj (Nat.not_lt_zero _), HM5⟩
    case round =>
      obtain ⟨q, vv, rfl, hq, HG, HM⟩ := hrel
      obtain ⟨ga, gc, hvv, hGR⟩ := HM.out.rows
      obtain ⟨gn, hgn⟩ : ∃ gn, (L ++ P.take q).length = gn := ⟨_, rfl⟩
      rw [hgn] at hvv
      have HTF := Lib.hid (HT4.out.below HM.out.below hg4)
      have hsz : w4.heap.size ≤ wr.heap.size := HM.out.below.size
      have hgl : gn ≤ 60 := by
        have h1 := HL.out.1
        have h2 := HP.out.1
        rw [List.length_append, List.length_take] at hgn
        omega
      by_cases hlq : q < pss.length
      · obtain ⟨bb, off, aj, cj, z, rfl, hbs, HZ, hc, HK, hz1', hz2'⟩ := HQ4.out.atC (j := q) (by rw [HPl.out]; omega)
        have hzm : z ∈ P := List.mem_of_getElem? HZ.out
        have hzl' : z.length ≤ 20 := HP.out.2.1 z hzm
        have hc' : wr.cell? ⟨bb, off + q, none⟩ = some (.slice aj z.length cj) := (HM.out.below.cell (p := ⟨bb, off + q, none⟩) hbs).trans hc
        have d0 := HM.out.f.c0
        have d1 : wr.cell? ⟨F, 1, none⟩ = some (.slice ga gn gc) := hvv ▸ HM.out.f.c1
        have hFl : F < wr.heap.size := HM.out.f.lt
        have hbr : bb < wr.heap.size := by omega
        have HKz := Lib.hid (KI.below HK.out (by exact HM.out.below))
        have HGR := Lib.hid hGR
        have HKI : Hid (∀ W, Hid (Below wr.heap.size wr W) → Calls Try.prog 14 #[.agg #[.int .i64 V, .slice ga gn gc], .slice aj z.length cj] W fun e w' => ∃ v : Bool, e = .returned (.tuple #[.bool v, .int .i64 0]) ∧ Hid (v = true ↔ GoodAt L P q) ∧ Hid (Below wr.heap.size wr w')) := fun W hW => by
          refine (impliedOk (V := V) (L := L ++ P.take q) (z := z) hV2 (by rw [hgn]; omega) (fun y hy => ?_) (fun y hy => ?_) (by omega) (HP.out.2.2 z hzm) (HGR.out.below hW.out) ((KI.below HKz.out (by exact hW.out)).ints) hz1' hz2' hgn rfl).mono ?_
          · rcases List.mem_append.1 hy with hy | hy
            · have := HL.out.2.1 y hy; omega
            · have := HP.out.2.1 y (List.mem_of_mem_take hy); omega
          · rcases List.mem_append.1 hy with hy | hy
            · exact HL.out.2.2 y hy
            · exact HP.out.2.2 y (List.mem_of_mem_take hy)
          · rintro e w' ⟨hb, v, rfl, hv⟩
            exact ⟨v, rfl, hv.trans (goodAt_iff HZ.out).symm, hW.out.trans (hb.mono hW.out.size)⟩
        have HSS : Hid (∀ W, Hid (Below wr.heap.size wr W) → W.cell? ⟨F, 0, none⟩ = some (.int .i64 V) ∧ W.cell? ⟨F, 1, none⟩ = some (.slice ga gn gc) ∧ W.cell? ⟨bb, off + q, none⟩ = some (.slice aj z.length cj) ∧ Hid (Below wr.heap.size wr W)) := fun W hW => ⟨(hW.out.cell (p := ⟨F, 0, none⟩) hFl).trans d0, (hW.out.cell (p := ⟨F, 1, none⟩) hFl).trans d1, (hW.out.cell (p := ⟨bb, off + q, none⟩) hbr).trans hc', hW⟩
        have HD : Hid (Below wr.heap.size wr wr.drew) := (Below.refl _ _).drew
        have HBS := Lib.hid hbs
        have HZ12 := Lib.hid (And.intro hz1' hz2')
        have HVV := Lib.hid hvv
        have HGN := Lib.hid hgn
        have hmx : maxLen = 9223372036854775807 := rfl
        obtain ⟨w7, hw7⟩ : ∃ w7 : World, w7 = wr := ⟨wr, rfl⟩
        subst hw7
        clear hzm hz1' hz2' hvv hgn hGR hc d0 d1 hc'
        go_wp2
        go_cut [14, 15] from 63 to 70 (fun s14 s15 wc => ∃ r, s14 = .bool r ∧ s15 = .int .i64 0 ∧ Hid (r = true ↔ GoodAt L P q) ∧ Hid (Below w7.heap.size w7 wc))
        case first =>
          go_region_held3 (fun W => W.cell? ⟨F, 0, none⟩ = some (.int .i64 V) ∧ W.cell? ⟨F, 1, none⟩ = some (.slice ga gn gc) ∧ W.cell? ⟨bb, off + q, none⟩ = some (.slice aj z.length cj) ∧ Hid (Below w7.heap.size w7 W)) (first | exact HSS.out _ HD | exact HSS.out _ (by assumption))
            (((with_reducible refine (HKI.out _ ?_).mono ?_); (· assumption); rintro e w' ⟨r, rfl, hr, hb⟩))
          all_goals (go_wp2_with fail; go_meet; exact ⟨r, rfl, rfl, hr, hb⟩)
        case rest =>
          obtain ⟨w8, rfl⟩ : ∃ w8 : World, w8 = wc := ⟨_, rfl⟩
          obtain ⟨r, rfl, rfl, HR8, HB8⟩ := hcut
          obtain ⟨d0, d1, d2, _⟩ := HSS.out _ HB8
          have HM8 := Lib.hid (HM.out.on HB8.out)
          have hs8 : w4.heap.size ≤ w8.heap.size := HM8.out.below.size
          clear HSS HKI HD hbr hFl
          cases r
          · -- the first that is not implied
            have hfb : FirstBad L P q := ⟨by rw [HPl.out]; exact hlq, (fun h => by have := HR8.out.2 h; cases this), HG.out⟩
            obtain rfl : v = (q : Int) := HV.out.same (.inl ⟨q, rfl, hfb⟩)
            have HFB := Lib.hid (firstBad_take hfb)
            have e3 : ((q : Int) == (q : Int)) = true := by simp
            have e4 : decide ((q : Int) < 0) = false := decide_eq_false (by omega)
            have e5 : ((q : Int) == (pss.length : Int)) = false := by rw [beq_eq_false_iff_ne]; omega
            obtain ⟨K, hK⟩ : ∃ K : Nat, q + 1 = K := ⟨_, rfl⟩
            have e6 : IntKind.i64.wrap ((q : Int) + 1) = (K : Int) := by rw [IntWalk.i64_in _ (by omega)]; omega
            have hqc : K ≤ pc := by have := HPC.out; omega
            have hqcI : (K : Int) ≤ (pc : Int) := by omega
            have hq0 : (0 : Int) ≤ (K : Int) := by omega
            rw [hK] at HFB
            have HT8 := Lib.hid (HT4.out.below HM8.out.below hg4)
            have HR8' := Lib.hid (HR4.out.below HM8.out.below)
            have HQ8 := Lib.hid ((HQ4.out.below HM8.out.below).take K)
            have hg8 : w1.heap.size < w8.heap.size := HT8.out.lt
            have htl : (P.take K).length = K := by rw [List.length_take, HPl.out]; omega
            have HB9 := Lib.hid (HB4.out.trans (HM8.out.below.mono HB4.out.size))
            have HCK : Hid (∀ W, Hid (Below w8.heap.size w8 W) → Calls Try.prog 18 #[.agg #[.int .i64 V, .slice a1 zss.length c1], .slice (some ⟨bb, off, none⟩) K pc] W fun e w' => e = .returned (.tuple #[.int .i64 q, .int .i64 0]) ∧ Hid (Below w8.heap.size w8 w')) := fun W hW => by
              refine (checkOf' hV2 HL.out (HP.out.take K) (HR8'.out.below hW.out) (HQ8.out.below hW.out) (by rw [htl]; exact hqc) HLl.out htl).mono ?_
              rintro e w' ⟨hb, v, rfl, hv⟩
              rw [hv.same (.inl ⟨q, rfl, HFB.out⟩)]
              exact ⟨rfl, hW.out.trans (hb.mono hW.out.size)⟩
            have HS8 : Hid (∀ W, Hid (Below w8.heap.size w8 W) → W.cell? ⟨w1.heap.size, 0, none⟩ = some (.int .i64 V) ∧ W.cell? ⟨w1.heap.size, 1, none⟩ = some (.slice a1 zss.length c1) ∧ Hid (Below w8.heap.size w8 W)) := fun W hW => ⟨(HT8.out.below hW.out hg8).c0, (HT8.out.below hW.out hg8).c1, hW⟩
            have HD8 : Hid (Below w8.heap.size w8 w8.drew) := (Below.refl _ _).drew
            clear hfb htl d0 d1 d2 HM8
            go_wp2
            go_cut [16, 17] from 124 to 131 (fun s16 s17 wc => s16 = .int .i64 q ∧ s17 = .int .i64 0 ∧ Hid (Below w8.heap.size w8 wc))
            case first =>
              go_region_held3 (fun W => W.cell? ⟨w1.heap.size, 0, none⟩ = some (.int .i64 V) ∧ W.cell? ⟨w1.heap.size, 1, none⟩ = some (.slice a1 zss.length c1) ∧ Hid (Below w8.heap.size w8 W)) (first | exact HS8.out _ HD8 | exact HS8.out _ (by assumption))
                (((with_reducible refine (HCK.out _ ?_).mono ?_); (· assumption); rintro e w' ⟨rfl, hb⟩))
              all_goals (go_wp2_with fail; go_meet; exact ⟨rfl, rfl, hb⟩)
            case rest =>
              obtain ⟨w9, rfl⟩ : ∃ w9 : World, w9 = wc := ⟨_, rfl⟩
              obtain ⟨rfl, rfl, HB10⟩ := hcut
              have HB11 := Lib.hid (HB9.out.trans (HB10.out.mono HB9.out.size))
              go_wp2_with fail
              refine (knownR_any _).mono ?_
              rintro e w10 ⟨rfl, hB12⟩
              have HB12 := Lib.hid (HB11.out.trans (hB12.mono HB11.out.size))
              clear hB12
              go_wp2
              go_ret
              exact ⟨rfl, HB12.out⟩
          · -- implied: it joins the formula
            have hgood : GoodAt L P q := HR8.out.1 rfl
            have e3 : (v == (q : Int)) = false := by
              rw [beq_eq_false_iff_ne]
              intro hvq
              rcases HV.out with ⟨k, h1, h2⟩ | ⟨h1, h2⟩
              · obtain rfl : k = q := by omega
                exact h2.2.1 hgood
              · have := HPl.out
                split at h2 <;> omega
            have HG2 : Hid (∀ j, j < q + 1 → GoodAt L P j) := fun j hj => by
              by_cases e : j = q
              · subst e; exact hgood
              · exact HG.out j (by omega)
            obtain ⟨vs, hv8, hnext⟩ := HM8.out.next
            rw [HGN.out] at hv8 hnext
            rw [HVV.out] at hv8 hnext
            have htk : P.take (q + 1) = P.take q ++ [z] := take_snoc _ _ _ HZ.out
            have HNX : Hid (∀ (wa w11 : World) (g cap : Nat), Below w8.heap.size w8 wa → wa.grownBy w11 (Value.slice ga gn gc).ownBlock → ((Value.slice ga gn gc).ownBlock = some g ∨ g = w8.heap.size + 1) → w11.ownsRow w4.heap.size 23 1 (.slice (some ⟨g, 0, none⟩) (gn + 1) cap) (gn + 1) (vs ++ [.slice aj z.length cj]) → MixB w4 (w11.setCell ⟨F, 1, none⟩ (.slice (some ⟨g, 0, none⟩) (gn + 1) cap)) F V (.slice (some ⟨g, 0, none⟩) (gn + 1) cap) (L ++ P.take (q + 1)) ∧ Two w11 F (.int .i64 V) (.slice ga gn gc)) := fun wa w11 g cap h1 h2 h3 h4 => by
              rw [htk, ← List.append_assoc]
              refine hnext wa w11 _ aj cj z h1 h2 (h3.elim (fun e => .inl e.symm) (fun e => .inr ⟨g, rfl, by omega⟩)) h4 ((KI.below HKz.out (by exact HB8.out)).ints) (fun h0 p hp => ?_) HZ12.out
              rcases HK.out with h5 | ⟨b5, off5, h6, h7, _⟩
              · exact absurd h5 h0
              · rw [h6] at hp; cases hp; exact h7
            have HV8 := Lib.hid hv8
            have hf8 : Two w8 F (.int .i64 V) (.slice ga gn gc) := by have := HM8.out.f; rw [HVV.out] at this; exact this
            have k1 := hf8.c1
            have k2 := hf8.free 1
            have k3 := (hf8.alloc (.cells #[.slice aj z.length cj] 23)).c1
            clear hv8 hnext hf8 htk hgood d0 d1
            go_wp2
            go_region_law (refine step_append_lies _ (by rfl) _ _ 24 (by rfl) w4.heap.size 23 j0 (.slice none 0 0) 1 24 Try.underlying24 hj hy0 hy1 hy2 rfl (by omega) (.slice ga gn gc) gn vs (by rfl) (by first | exact (World.ownsRow.alloc HV8.out _).drew | exact World.ownsRow.alloc HV8.out.drew _) ⟨w8.heap.size, 0, none⟩ 1 1 [.slice aj z.length cj] (by rfl) (by rfl) (by first | exact World.news_of_block (cs := #[.slice aj z.length cj]) (t := 23) (fr := (0, 0)) (heap_alloc_new w8 _) | exact World.news_of_block (cs := #[.slice aj z.length cj]) (t := 23) (fr := (0, 0)) (heap_alloc_new w8.drew _)) one_slice (by omega) (by omega) (by omega) (by simp; omega) (w8.heap.size + 1) (by simp) ?_; intro g11 cap11 w11 hown11 hgrow11 hat11 hlt11; have HX := Lib.hid (HNX.out _ _ _ _ (by first | exact (boxed w8 _).drew | exact (Below.refl _ _).drew.alloc (by simp) _) hgrow11 hat11 hown11); have l1 := HX.out.2.c1; have z1 := HX.out.2.free 1; clear hown11 hgrow11 hat11 hlt11)
            all_goals
              go_wp2
              go_roundw
              case rel => exact ⟨q + 1, _, by go_num, by omega, HG2, HX.out.1⟩
              case measure => simp [intOf]; omega
      · have hqe : q = P.length := by have := HPl.out; omega
        have hall : AllGood L P := fun j hj => HG.out j (by omega)
        have hv : v = if P.getLast? = some [] then -1 else (P.length : Int) := HV.out.same (.inr ⟨hall, rfl⟩)
        have HB6 := Lib.hid (HB4.out.trans (HM.out.below.mono HB4.out.size))
        have HQr := Lib.hid (HQ4.out.below HM.out.below)
        clear hvv hGR hgn hall
        rcases (show pss.length = 0 ∨ ∃ p, pss.length = p + 1 by cases pss.length with | zero => exact .inl rfl | succ p => exact .inr ⟨p, rfl⟩) with hpn | ⟨p, hpn⟩
        · rw [hpn]
          have hp0 : P.length = 0 := by rw [HPl.out]; exact hpn
          have hP0 : P = [] := List.length_eq_zero_iff.1 hp0
          rw [hP0] at hv
          have hv0 : v = 0 := by simpa using hv
          subst hv0
          have hqz : q = 0 := by omega
          subst hqz
          clear hv hP0 hp0 hqe
          go_wp2_with fail
          refine (knownR_any _).mono ?_
          rintro e w7 ⟨rfl, hB7⟩
          have HB7 := Lib.hid (HB6.out.trans (hB7.mono HB6.out.size))
          clear hB7
          go_wp2
          go_ret
          exact ⟨rfl, HB7.out⟩
        · obtain ⟨bb, off, aj, cj, z, rfl, hbs, HZ, hc, _⟩ := HQr.out.at (j := p) (by rw [HPl.out]; omega)
          have hlast : P.getLast? = some z := by
            rw [List.getLast?_eq_getElem?, show P.length - 1 = p by rw [HPl.out]; omega]; exact HZ.out
          rw [hlast] at hv
          have hw : IntKind.i64.wrap ((pss.length : Int) - 1) = (p : Int) := by rw [IntWalk.i64_in _ (by omega)]; omega
          have hp0 : (0 : Int) ≤ (p : Int) := by omega
          have hpl' : (p : Int) < (pss.length : Int) := by omega
          have hpln : p < pss.length := by omega
          have hpos : (0 : Int) < (pss.length : Int) := by omega
          rw [HPl.out] at hv
          by_cases hz : z = []
          · subst hz
            have hv1 : v = -1 := by simpa using hv
            subst hv1
            clear hv hlast hqe hpn
            go_wp2_with fail
            refine (knownR_any _).mono ?_
            rintro e w7 ⟨rfl, hB7⟩
            have HB7 := Lib.hid (HB6.out.trans (hB7.mono HB6.out.size))
            clear hB7
            go_wp2
            go_ret
            exact ⟨rfl, HB7.out⟩
          · have hv1 : v = (pss.length : Int) := by rw [if_neg (by simpa using hz)] at hv; exact hv
            have e1 : decide (v < 0) = false := decide_eq_false (by omega)
            have e2 : (v == (pss.length : Int)) = true := by rw [beq_iff_eq]; exact hv1
            have e3 : (v == -1) = false := by rw [beq_eq_false_iff_ne]; omega
            have hzl : z.length ≠ 0 := fun h => hz (List.length_eq_zero_iff.1 h)
            have e4 : ((z.length : Int) == 0) = false := by rw [beq_eq_false_iff_ne]; omega
            clear hv hlast hqe hpn hz hv1
            go_wp2_with fail
            refine (knownR_any _).mono ?_
            rintro e w7 ⟨rfl, hB7⟩
            have HB7 := Lib.hid (HB6.out.trans (hB7.mono HB6.out.size))
            clear hB7
            go_wp2
            go_ret
            exact ⟨rfl, HB7.out⟩
end Go.Proofs.Ytbljkbdbiceokaa
