/-
  PropOrder: the order of clauses, literals and assumptions makes no difference, nor how often they are there.
-/
import Derived.Test.YtjpjhpokimdblaaPropV
import Derived.Deep.CutRange
import Derived.Deep.RegionHeld3
import Derived.Deep.RegionLaw
import Derived.Deep.AppendLies
import Derived.Deep.DrawnRows
import Derived.BigQuiet
namespace Go.Proofs.Ytjpjhpokimdblaa
open Go.RowKit Go.Lib
open Go.RowKit (Below)
attribute [local go_sem ↓] Go.wp_at_zero Go.wp_at_succ

set_option maxRecDepth 100000 in
set_option maxHeartbeats 8000000 in
theorem propOrder_walk (w : World) (n : Int) (hn : (Lit.int .u8 n).wf = true) (a : Option Addr) (c : Nat) (zss : List (List Int)) (hR : RowsR .i8 w a zss) (hA : AllLen zss) (hm : zss.length ≤ maxLen) (hwf : ∀ z ∈ zss, ∀ x ∈ z, (Lit.int .i8 x).wf = true)
    (b : Option Addr) (d : Nat) (qs : List Int) (hQ : KI .i8 w b qs) (hqw : ∀ n ∈ qs, (Lit.int .i8 n).wf = true) (hqm : qs.length ≤ maxLen) :
    Calls Try.prog 10 #[.int .u8 n, .slice a zss.length c, .slice b qs.length d] w fun e w' => e = .returned (.bool true) ∧ Below w.heap.size w w' := by
  obtain ⟨hn0, hn1⟩ := u8_range hn
  obtain ⟨V, hV⟩ : ∃ V : Nat, 1 + n % 12 = (V : Int) := ⟨(1 + n % 12).toNat, by omega⟩
  have hV1 : 1 ≤ V := by omega
  have hV2 : V ≤ 12 := by omega
  obtain ⟨i0, hi, hz0, hz1, hz2⟩ := info_parts Try.info3
  obtain ⟨j0, hj, hy0, hy1, hy2⟩ := info_parts Try.info23
  have HF := Lib.hid (fit_any n V hn0 hn1 hV a c zss w hR hA hm hwf)
  have HQ := Lib.hid hQ
  have HQW := Lib.hid hqw
  have HQM := Lib.hid hqm
  clear hV hR hA hm hwf hn hn0 hn1 hQ hqw hqm
  go_enter Try.func10, Try.ntmps10
  go_wp2_with fail
  refine HF.out.mono ?_
  rintro e w1 (⟨hf, rfl, hB1⟩ | ⟨hf, a1, c1, rfl, _, _, hR1, hB1⟩)
  · have HB1 := Lib.hid (hB1.alloc hB1.size (.cells #[.int .i64 0, .slice none 0 0] 26))
    clear hB1 hf
    go_wp2_with fail
    refine (knownP_any _).mono ?_
    rintro e w2 ⟨rfl, hB2⟩
    have HB2 := Lib.hid (HB1.out.trans (hB2.mono HB1.out.size))
    clear hB2
    go_wp2
    go_ret
    exact ⟨rfl, HB2.out⟩
  · have HFB := Lib.hid hf
    have HR1 := Lib.hid (hR1.alloc (.cells #[.int .i64 V, .slice a1 zss.length c1] 26))
    have HB1 := Lib.hid (hB1.alloc hB1.size (.cells #[.int .i64 V, .slice a1 zss.length c1] 26))
    have HT := Lib.hid (Two.new w1 (.int .i64 V) (.slice a1 zss.length c1))
    have HQ1 := Lib.hid ((KI.below HQ.out (by exact hB1)).alloc (.cells #[.int .i64 V, .slice a1 zss.length c1] 26))
    clear hB1 hR1 hf HF
    go_wp2_with fail
    refine (assumed_any V (by omega) (by omega) _ b d qs _ HQW.out HQM.out HQ1.out).mono ?_
    rintro e w2 ⟨v2, rfl, hO, hB2⟩
    obtain ⟨va, vc, rfl, hVI⟩ := hO.reads
    have HXO : Hid (∀ x ∈ fitZ (V : Int) (qs.take 12), -(V : Int) ≤ x ∧ x ≤ V ∧ x ≠ 0) := fitZ_range V (by omega) _
    have hxl : (fitZ (V : Int) (qs.take 12)).length ≤ 12 := by
      have h1 := fitZ_le V (qs.take 12)
      have h2 : (qs.take 12).length ≤ 12 := List.length_take_le _ _
      omega
    obtain ⟨xs, hxs⟩ : ∃ xs, fitZ (V : Int) (qs.take 12) = xs := ⟨_, rfl⟩
    rw [hxs] at HXO hxl hVI
    rw [hxs]
    have HT2 := Lib.hid (HT.out.below hB2 (by simp))
    have HR2 := Lib.hid (HR1.out.below hB2)
    have HB2 := Lib.hid (HB1.out.trans (hB2.mono HB1.out.size))
    have HX2 := Lib.hid hVI
    have hg1 : w1.heap.size < w2.heap.size := HT2.out.lt
    have c0 := HT2.out.c0
    have c1' := HT2.out.c1
    have hmx : maxLen = 9223372036854775807 := rfl
    have HXL : Hid (xs.length ≤ maxLen) := by unfold Hid; omega
    clear hxs hVI hO hB2 HB1 HR1 HT HQ HQ1 HQM HQW hmx
    go_wp2_with fail
    have HL := Lib.hid (fitL_len (V : Int) zss)
    have HCP := Lib.hid (fit_checkP (V := V) (by omega) (by omega) HFB.out HXO.out)
    have HA := Lib.hid (fitL_all (V := V) HFB.out)
    have HRG := Lib.hid (fit_range hV2 hV1 zss)
    have H20 : Hid (∀ z ∈ fitL (V : Int) zss, z.length ≤ 20) := fun z hz => by
      unfold fitL at hz
      obtain ⟨y, hy, rfl⟩ := List.mem_map.1 hz
      exact Nat.le_trans (fitZ_le _ _) ((fitB_parts HFB.out).2 y hy)
    have hzl : zss.length ≤ 30 := (fitB_parts HFB.out).1
    generalize fitL (V : Int) zss = L at HL HCP HA HRG H20 HR2
    clear HFB
    refine (unitsRes hV2 (by rw [HL.out]; unfold maxLen; omega) HA.out HR2.out HX2.out HXL.out (fun z hz x hx => by have := HRG.out z hz x hx; constructor <;> omega) (fun x hx => by have := HXO.out x hx; constructor <;> omega) HCP.out HL.out rfl).mono ?_
    rintro e w3 ⟨hB3, ua, uc, u, ff, rfl, hUI, hul, hone⟩
    have HB3 := Lib.hid (HB2.out.trans (hB3.mono HB2.out.size))
    have HT3 := Lib.hid (HT2.out.below hB3 hg1)
    have HR3 := Lib.hid (HR2.out.below hB3)
    have HX3 := Lib.hid (HX2.out.below hB3)
    have HU3 := Lib.hid hUI
    have HONE := Lib.hid hone
    have hul12 : u.length ≤ 12 := by omega
    have hg3 : w1.heap.size < w3.heap.size := HT3.out.lt
    clear hB3 hUI hone c0 c1' HB2 HT2 HR2 HX2 hg1 HCP
    have c0 := HT3.out.c0
    have c1' := HT3.out.c1
    have hwl : IntKind.i64.wrap ((zss.length : Int) - 1) = (zss.length : Int) - 1 := IntWalk.i64_in _ (by omega)
    have HM0 : Hid (MixAt w3 (w3.alloc (.cells #[.int .i64 V, .slice none 0 0] 26)) V (.slice none 0 0) []) := MixAt.first (Two.new w3 _ _) (boxed w3 _)
    go_wp2
    go_loopw [14] (fun i wr => ∃ (p : Int) (k : Nat) (v : Value) (G : List (List Int)), i = .int .i64 p ∧ p = (k : Int) - 1 ∧ k ≤ zss.length ∧ Hid (MixAt w3 wr V v G) ∧ Hid (Good L G k)) (fun i _ => (intOf i + 1).toNat)
    case atStart => exact ⟨_, zss.length, _, [], rfl, rfl, Nat.le_refl _, HM0, by unfold Hid; rw [← HL.out]; exact Good.first L⟩
    case round =>
      obtain ⟨p, k, v, G, rfl, hp, hk, HM, HG⟩ := hrel
      clear HM0 c0 c1'
      have hT5 := HT3.out.below HM.out.below hg3
      have c1' := hT5.c1
      cases k with
      | zero =>
        have hp1 : p = -1 := by omega
        subst hp1
        clear hp hk
        have HU5 := Lib.hid (HU3.out.below HM.out.below)
        have HX5 := Lib.hid (HX3.out.below HM.out.below)
        have HB5 := Lib.hid (HB3.out.trans (HM.out.below.mono HB3.out.size))
        have hwx : IntKind.i64.wrap ((xs.length : Int) - 1) = (xs.length : Int) - 1 := IntWalk.i64_in _ (by omega)
        have hg5 : w3.heap.size < wr.heap.size := HM.out.size
        obtain ⟨w5, rfl⟩ : ∃ w5 : World, w5 = wr := ⟨_, rfl⟩
        clear hT5 c1' HU3 HX3 HR3 HT3 H20 HB3
        go_wp2
        go_loopw [17, 18] (fun cv i wr => ∃ (p : Int) (q : Nat) (C : List Int), i = .int .i64 p ∧ p = (q : Int) - 1 ∧ q ≤ xs.length ∧ Hid (C.length + 2 * q = 2 * xs.length) ∧ Hid (∀ x ∈ C, x ∈ xs) ∧ Hid (∀ (j : Nat) (x : Int), q ≤ j → xs[j]? = some x → x ∈ C) ∧ Hid (Own wr w5.heap.size cv C) ∧ Hid (Below w5.heap.size w5 wr)) (fun _ i _ => (intOf i + 1).toNat)
        case atStart => exact ⟨_, xs.length, [], rfl, rfl, Nat.le_refl _, Nat.zero_add _, fun x hx => by simp at hx, fun j x hj hx => by have := (List.getElem?_eq_some_iff.1 hx).1; omega, Own.nil _ _, Below.refl _ _⟩
        case round =>
          obtain ⟨p, q, C, rfl, hp, hq, HCL, HCS, HCA, HO, HB6⟩ := hrel
          have hsz6 := HB6.out.size
          have hcl : C.length ≤ 24 := by have := HCL.out; omega
          obtain ⟨sa, sc, rfl, hSI⟩ := HO.out.reads
          cases q with
          | zero =>
            have hp1 : p = -1 := by omega
            subst hp1
            clear hp hq
            have HM6 := Lib.hid (HM.out.on HB6.out)
            obtain ⟨ga, gc, rfl, hRG⟩ := HM6.out.rows
            have hxc : ∀ x, x ∈ xs ↔ x ∈ C := fun x => ⟨fun hx => by
              obtain ⟨j, hj⟩ := List.mem_iff_getElem?.1 hx
              exact HCA.out j x (Nat.zero_le _) hj, HCS.out x⟩
            have hCR : ∀ x ∈ C, -(V : Int) ≤ x ∧ x ≤ V ∧ x ≠ 0 := fun x hx => HXO.out x (HCS.out x hx)
            have hchk := HG.out.check hV2 (by rw [HL.out]; omega) HRG.out hCR
            have hGl : G.length ≤ maxLen := by have := HG.out.2.2.1; rw [HL.out] at this; unfold maxLen; omega
            have HUN := Lib.hid (unitsRes (c := gc) (xc := sc) hV2 hGl HG.out.allLen hRG hSI (by unfold maxLen; omega) (fun z hz x hx => by have := HG.out.range HRG.out z hz x hx; constructor <;> omega) (fun x hx => by have := hCR x hx; constructor <;> omega) hchk rfl rfl)
            have HXC := Lib.hid hxc
            have e0 := HM6.out.f.c0
            have e1 := HM6.out.f.c1
            have HU6 := Lib.hid (HU5.out.below HB6.out)
            have HB7 := Lib.hid (HB5.out.trans (HB6.out.mono HB5.out.size))
            clear hxc hCR hchk hGl hRG hSI
            go_wp2_with fail
            refine HUN.out.mono ?_
            rintro e w7 ⟨hB7, ta, tc, u2, gg, rfl, hU2, hul2, hone2⟩
            obtain ⟨rfl, rfl⟩ := HONE.out.same hone2 HG.out HXC.out
            have HU7 := Lib.hid (HU6.out.below hB7)
            have HY7 := Lib.hid hU2
            have HB8 := Lib.hid (HB7.out.trans (hB7.mono HB7.out.size))
            have hgg : (gg == gg) = true := by simp
            clear hB7 hU2 hul2 hone2 e0 e1
            go_wp2_with fail
            refine (equal_is rfl rfl (show eqB u2 u2 = true from decide_eq_true rfl) _ _ _ _ _ (by unfold maxLen; omega) HU7.out HY7.out).mono ?_
            rintro e w8 ⟨rfl, hB8⟩
            have HB9 := Lib.hid (HB8.out.trans (hB8.mono HB8.out.size))
            clear hB8
            go_wp2_with fail
            refine (knownP_any _).mono ?_
            rintro e w9 ⟨rfl, hB9⟩
            have HB10 := Lib.hid (HB9.out.trans (hB9.mono HB9.out.size))
            clear hB9
            go_wp2
            go_ret
            exact ⟨rfl, HB10.out⟩
          | succ r =>
            have hp1 : p = (r : Int) := by omega
            subst hp1
            have hr0 : (0 : Int) ≤ (r : Int) := by omega
            have hrz : (r : Int) < (xs.length : Int) := by omega
            have hrn : r < xs.length := by omega
            have hwr : IntKind.i64.wrap ((r : Int) - 1) = (r : Int) - 1 := IntWalk.i64_in _ (by omega)
            clear hp hq
            obtain ⟨b6, off6, x, rfl, hx, hcx⟩ := (HX5.out.below HB6.out).at hrn
            have HCL' : Hid ((C ++ [x, x]).length + 2 * r = 2 * xs.length) := by unfold Hid; rw [List.length_append]; have := HCL.out; simp; omega
            have HCS' : Hid (∀ y ∈ C ++ [x, x], y ∈ xs) := fun y hy => by
              rcases List.mem_append.1 hy with hy | hy
              · exact HCS.out y hy
              · have : y = x := by simpa using hy
                rw [this]; exact List.mem_of_getElem? hx.out
            have HCA' : Hid (∀ (j : Nat) (y : Int), r ≤ j → xs[j]? = some y → y ∈ C ++ [x, x]) := fun j y hj hy => by
              by_cases e : j = r
              · subst e; rw [hx.out] at hy; cases hy; simp
              · exact List.mem_append_left _ (HCA.out j y (by omega) hy)
            clear hx hSI
            have HAP : Hid (∀ (w0 w1 : World) (v' : Value), Below wr.heap.size wr w0 → w0.grownBy w1 (Value.slice sa C.length sc).ownBlock → w1.ownsRow w5.heap.size 3 1 v' (C.length + 2) (C.map (Value.int .i64) ++ [.int .i64 x, .int .i64 x]) → Own w1 w5.heap.size v' (C ++ [x, x]) ∧ Below w5.heap.size w5 w1) := fun w0 w1 v' h1 h2 h3 =>
              ⟨Own.of h3 (by simp) (by simp), (HB6.out.trans (h1.mono hsz6)).grown h2 (by have := h1.size; omega) (fun k hk => (World.ownsRow.lt HO.out k hk).1)⟩
            go_wp2
            go_region_law (refine step_append_lies _ (by rfl) _ _ 23 (by rfl) w5.heap.size 3 i0 (.int .i64 0) 1 8 Try.underlying23 hi hz0 hz1 hz2 rfl (by omega) (.slice sa C.length sc) C.length (C.map (Value.int .i64)) (by rfl) (by first | exact (World.ownsRow.alloc HO.out _).drew | exact World.ownsRow.alloc HO.out.drew _) ⟨wr.heap.size, 0, none⟩ 2 2 [.int .i64 x, .int .i64 x] (by rfl) (by rfl) (by first | exact World.news_of_block (cs := #[.int .i64 x, .int .i64 x]) (t := 3) (fr := (0, 0)) (heap_alloc_new wr _) | exact World.news_of_block (cs := #[.int .i64 x, .int .i64 x]) (t := 3) (fr := (0, 0)) (heap_alloc_new wr.drew _)) (by intro u hu; simp at hu; subst hu; rfl) (by omega) (by unfold maxLen; omega) (by omega) (by simp; omega) (wr.heap.size + 1) (by simp) ?_; intro g11 cap11 w11 hown11 hgrow11 hat11 hlt11; have HX := Lib.hid (HAP.out _ _ _ (by first | exact (boxed wr _).drew | exact (Below.refl _ _).drew.alloc (by simp) _) hgrow11 hown11); clear hown11 hgrow11 hat11 hlt11)
            all_goals
              go_wp2
              go_roundw
              case rel => exact ⟨_, r, C ++ [x, x], rfl, rfl, by omega, HCL', HCS', HCA', HX.out.1, HX.out.2⟩
              case measure => simp [intOf]
      | succ m =>
        have hp1 : p = (m : Int) := by omega
        subst hp1
        have hm0 : (0 : Int) ≤ (m : Int) := by omega
        have hmz : (m : Int) < (zss.length : Int) := by omega
        have hmn : m < zss.length := by omega
        have hwm : IntKind.i64.wrap ((m : Int) - 1) = (m : Int) - 1 := IntWalk.i64_in _ (by omega)
        clear hp hk
        obtain ⟨bz, offz, aj, cj, z, rfl, hbz, hzz, hcz, hKz, hzc⟩ := HR3.out.atC (j := m) (by rw [HL.out]; exact hmn)
        have hz20 := H20.out z (List.mem_of_getElem? hzz.out)
        have hcz5 : wr.cell? ⟨bz, offz + m, none⟩ = some (.slice aj z.length cj) := by rw [HM.out.below.cell (p := ⟨bz, offz + m, none⟩) hbz]; exact hcz
        have HK5 := Lib.hid (hKz.out.ints.below HM.out.below)
        have HKB : Hid (z.length ≠ 0 → ∀ p, aj = some p → p.block < w3.heap.size) := fun h0 p hp => by
          rcases hKz.out with h | ⟨bb, off, ha, hs, _⟩
          · exact absurd h h0
          · rw [ha] at hp; injection hp with hp; rw [← hp]; exact hs
        have HCZ := Lib.hid hcz5
        have HCZ3 := Lib.hid hcz
        have HKZ := Lib.hid hKz.out.ints
        have HZC := Lib.hid hzc
        have HT5 := Lib.hid hT5
        have hsz5 : w3.heap.size + 1 ≤ wr.heap.size := HM.out.size
        have hbz5 : bz < wr.heap.size := by omega
        have hg5 : w1.heap.size < wr.heap.size := HT5.out.lt
        have hwz : IntKind.i64.wrap ((z.length : Int) - 1) = (z.length : Int) - 1 := IntWalk.i64_in _ (by omega)
        obtain ⟨w5, rfl⟩ : ∃ w5 : World, w5 = wr := ⟨_, rfl⟩
        clear hcz hKz hzc hT5
        go_wp2
        clear c1' hcz5
        go_loopw [15, 16] (fun cv i wr => ∃ (p : Int) (q : Nat) (C : List Int), i = .int .i64 p ∧ p = (q : Int) - 1 ∧ q ≤ z.length ∧ Hid (C.length + q = z.length) ∧ Hid (∀ x ∈ C, x ∈ z) ∧ Hid (Own wr w5.heap.size cv C) ∧ Hid (Below w5.heap.size w5 wr)) (fun _ i _ => (intOf i + 1).toNat)
        case atStart => exact ⟨_, z.length, [], rfl, rfl, Nat.le_refl _, Nat.zero_add _, fun x hx => by simp at hx, Own.nil _ _, Below.refl _ _⟩
        case round =>
          obtain ⟨p, q, C, rfl, hp, hq, HCL, HCS, HO, HB6⟩ := hrel
          have c1' := (HT5.out.below HB6.out hg5).c1
          have hcz6 : wr.cell? ⟨bz, offz + m, none⟩ = some (.slice aj z.length cj) := by rw [HB6.out.cell (p := ⟨bz, offz + m, none⟩) hbz5]; exact HCZ.out
          have hsz6 := HB6.out.size
          have hcl : C.length ≤ 20 := by have := HCL.out; omega
          obtain ⟨sa, sc, rfl, _⟩ := HO.out.reads
          cases q with
          | zero =>
            have hp1 : p = -1 := by omega
            subst hp1
            clear hp hq
            have HCC : Hid (C.length = z.length) := by unfold Hid; have := HCL.out; omega
            obtain ⟨hgd1, hgd2⟩ := HG.out.turned hzz.out hz20 HCC.out HCS.out
            have HG1 := Lib.hid hgd1
            have HG2 := Lib.hid hgd2
            clear hgd1 hgd2
            have hvlt : ∀ k, v.ownBlock = some k → k < w5.heap.size := fun k hk => by
              obtain ⟨vs, h1, _⟩ := HM.out.mix
              exact (World.ownsRow.lt h1 k hk).2
            have HK6 := Lib.hid (HK5.out.below HB6.out)
            go_wp2_with (at_builtin; refine wpList_append_ints rfl _ _ 23 rfl w5.heap.size 3 i0 (.int .i64 0) Try.underlying23 hi hz0 hz1 hz2 rfl (.slice sa C.length sc) C.length (C.map (Value.int .i64)) (by rfl) HO.out aj z.length cj z (by rfl) rfl HK6.out ?c3 ?c4 hsz6 ?_)
            case c3 => unfold maxLen; omega
            case c4 => omega
            intro v8 w7 hown' hgrow
            have hB7 : Below w5.heap.size w5 w7 := HB6.out.grown hgrow hsz6 (fun k hk => (World.ownsRow.lt HO.out k hk).1)
            have hO7 : Own w7 w5.heap.size v8 (C ++ z) := Own.of hown' (by simp) (by simp)
            obtain ⟨a8, c8, rfl, hI8, hp8, hcc8⟩ := hO7.parts
            have hM7 := HM.out.on hB7
            obtain ⟨vs, hv7, hnext⟩ := hM7.next
            have hf7 := hM7.f
            have e1 := hf7.c1
            have hsz7 := hB7.size
            have hlen7 : (C ++ z).length ≤ 40 := by rw [List.length_append]; omega
            have HNX : Hid (∀ (w0 w1 : World) (v' : Value), Below w7.heap.size w7 w0 → w0.grownBy w1 v.ownBlock → (v'.ownBlock = v.ownBlock ∨ ∃ k, v'.ownBlock = some k ∧ w7.heap.size ≤ k) → w1.ownsRow (w3.heap.size + 1) 23 1 v' (G.length + 1) (vs ++ [.slice a8 (C ++ z).length c8]) → MixAt w3 (w1.setCell ⟨w3.heap.size, 1, none⟩ v') V v' (G ++ [C ++ z]) ∧ Two w1 w3.heap.size (.int .i64 V) v) := fun w0 w1 v' h1 h2 h3 h4 =>
              hnext w0 w1 v' a8 c8 (C ++ z) h1 h2 h3 h4 hI8 (fun _ p hp => ⟨(hp8 p hp).2, by have := (hp8 p hp).1; omega, fun e => by have := hvlt _ e; have := (hp8 p hp).1; omega⟩) hcc8
            have HV7 := Lib.hid hv7
            have hGl : G.length ≤ 60 := by have := HG.out.2.2.1; rw [HL.out] at this; omega
            have HB7 := Lib.hid hB7
            have hcz7 : w7.cell? ⟨bz, offz + m, none⟩ = some (.slice aj z.length cj) := by rw [hB7.cell (p := ⟨bz, offz + m, none⟩) hbz5]; exact HCZ.out
            have c2' := (HT5.out.below hB7 hg5).c1
            obtain ⟨D, hD⟩ : ∃ D, C ++ z = D := ⟨_, rfl⟩
            rw [hD] at HNX HG1 HG2 hlen7
            rw [hD]
            clear hown' hgrow hB7 hO7 hI8 hp8 hcc8 hM7 hnext hv7 hf7 hvlt HK6 HB6 HO c1' hcz6 hsz6 hD HCC HCL HCS hcl HG
            go_wp2_with (at_builtin; refine wpList_append_own_at _ rfl _ _ 24 rfl (w3.heap.size + 1) 23 j0 (.slice none 0 0) 1 24 Try.underlying24 hj hy0 hy1 hy2 rfl (by decide) v G.length vs (by rfl) (World.ownsRow.alloc HV7.out _) ⟨w7.heap.size, 0, none⟩ 1 1 [.slice a8 D.length c8] (by rfl) (by rfl) (one_new (by simp)) one_slice ?d3 ?d4 ?d5 ?_)
            case d3 => unfold maxLen; omega
            case d4 => omega
            case d5 => simp; omega
            intro v9 w9 hown9 hgrow9 _ hat9
            obtain ⟨g9, cap9, rfl⟩ := Go.Joins.ownsRow_form hown9 (by omega)
            obtain ⟨hN, hT9⟩ := HNX.out _ w9 _ (boxed _ _) hgrow9 (hat9.imp id (fun h => ⟨_, h, by simp⟩)) hown9
            have HN := Lib.hid hN
            have e2 := hT9.c1
            have f2 := hT9.free 1
            clear hown9 hgrow9 hat9 hN hT9 HNX HV7 e1
            obtain ⟨r2, hr2⟩ : ∃ r2, (m : Int) % 2 = r2 := ⟨_, rfl⟩
            have hrt : (m : Int).tmod 2 = r2 := by rw [Int.tmod_eq_emod_of_nonneg hm0]; exact hr2
            by_cases hr0 : r2 = 0
            · subst hr0
              go_wp2
              generalize w9.setCell ⟨w3.heap.size, 1, none⟩ (.slice (some ⟨g9, 0, none⟩) (G.length + 1) cap9) = w10 at HN ⊢
              have hT10 := HT3.out.below HN.out.below hg3
              have hcz10 : w10.cell? ⟨bz, offz + m, none⟩ = some (.slice aj z.length cj) := by rw [HN.out.below.cell (p := ⟨bz, offz + m, none⟩) hbz]; exact HCZ3.out
              have hI10 := HKZ.out.below HN.out.below
              obtain ⟨vs2, hv10, hnext10⟩ := HN.out.next
              have hGD : (G ++ [D]).length = G.length + 1 := by simp
              rw [hGD] at hv10 hnext10
              have hs10 := HN.out.size
              have hglo : w3.heap.size + 1 ≤ g9 := (World.ownsRow.lt hv10 g9 rfl).1
              have HNX10 : Hid (∀ (w0 w1 : World) (g cap : Nat), Below w10.heap.size w10 w0 → w0.grownBy w1 (Value.slice (some ⟨g9, 0, none⟩) (G.length + 1) cap9).ownBlock → ((Value.slice (some ⟨g9, 0, none⟩) (G.length + 1) cap9).ownBlock = some g ∨ g = w10.heap.size + 1) → w1.ownsRow (w3.heap.size + 1) 23 1 (.slice (some ⟨g, 0, none⟩) (G.length + 1 + 1) cap) (G.length + 1 + 1) (vs2 ++ [.slice aj z.length cj]) → MixAt w3 (w1.setCell ⟨w3.heap.size, 1, none⟩ (.slice (some ⟨g, 0, none⟩) (G.length + 1 + 1) cap)) V (.slice (some ⟨g, 0, none⟩) (G.length + 1 + 1) cap) (G ++ [D] ++ [z]) ∧ Two w1 w3.heap.size (.int .i64 V) (.slice (some ⟨g9, 0, none⟩) (G.length + 1) cap9)) := fun w0 w1 g cap h1 h2 h3 h4 =>
                hnext10 w0 w1 _ aj cj z h1 h2 (h3.elim (fun e => .inl e.symm) (fun e => .inr ⟨g, rfl, by omega⟩)) h4 hI10 (fun h0 p hp => by
                  have h5 := HKB.out h0 p hp
                  refine ⟨by omega, by omega, fun e => ?_⟩
                  have h6 : g9 = p.block := by injection e
                  omega) HZC.out
              have HV10 := Lib.hid hv10
              have hf10 := HN.out.f
              have c1' := hT10.c1
              have e1 := hf10.c1
              have f1 := hf10.free 1
              have e1a := (hf10.alloc (.cells #[.slice aj z.length cj] 23)).c1
              clear hT10 hI10 hnext10 hv10 hf10 hGD hcz7 c2' e2 f2
              go_region_law (refine step_append_lies _ (by rfl) _ _ 24 (by rfl) (w3.heap.size + 1) 23 j0 (.slice none 0 0) 1 24 Try.underlying24 hj hy0 hy1 hy2 rfl (by omega) (.slice (some ⟨g9, 0, none⟩) (G.length + 1) cap9) (G.length + 1) vs2 (by rfl) (by first | exact (World.ownsRow.alloc HV10.out _).drew | exact World.ownsRow.alloc HV10.out.drew _) ⟨w10.heap.size, 0, none⟩ 1 1 [.slice aj z.length cj] (by rfl) (by rfl) (by first | exact World.news_of_block (cs := #[.slice aj z.length cj]) (t := 23) (fr := (0, 0)) (heap_alloc_new w10 _) | exact World.news_of_block (cs := #[.slice aj z.length cj]) (t := 23) (fr := (0, 0)) (heap_alloc_new w10.drew _)) one_slice (by omega) (by unfold maxLen; omega) (by omega) (by simp; omega) (w10.heap.size + 1) (by simp) ?_; intro g11 cap11 w11 hown11 hgrow11 hat11 hlt11; have HX := Lib.hid (HNX10.out _ _ _ _ (by first | exact (boxed w10 _).drew | exact (Below.refl _ _).drew.alloc (by simp) _) hgrow11 hat11 hown11); have k1 := HX.out.2.c1; have z1 := HX.out.2.free 1; clear hown11 hgrow11 hat11 hlt11)
              all_goals
                go_wp2
                go_roundw
                case rel => exact ⟨_, m, _, _, rfl, rfl, by omega, HX.out.1, HG2⟩
                case measure => simp [intOf]
            · have hrb : (r2 == 0) = false := by simp [hr0]
              clear hr2
              go_wp2
              go_roundw
              case rel => exact ⟨_, m, _, _, rfl, rfl, by omega, HN, HG1⟩
              case measure => simp [intOf]
          | succ r =>
            have hp1 : p = (r : Int) := by omega
            subst hp1
            have hr0 : (0 : Int) ≤ (r : Int) := by omega
            have hrz : (r : Int) < (z.length : Int) := by omega
            have hrn : r < z.length := by omega
            have hwr : IntKind.i64.wrap ((r : Int) - 1) = (r : Int) - 1 := IntWalk.i64_in _ (by omega)
            clear hp hq
            obtain ⟨b6, off6, x, rfl, hx, hcx⟩ := (HK5.out.below HB6.out).at hrn
            have HCL' : Hid ((C ++ [x]).length + r = z.length) := by unfold Hid; rw [List.length_append]; have := HCL.out; simp; omega
            have HCS' : Hid (∀ y ∈ C ++ [x], y ∈ z) := fun y hy => by
              rcases List.mem_append.1 hy with hy | hy
              · exact HCS.out y hy
              · rw [List.mem_singleton] at hy; rw [hy]; exact List.mem_of_getElem? hx.out
            clear hx
            go_wp2_with (at_builtin; refine wpList_append_own _ rfl _ _ 23 rfl w5.heap.size 3 i0 (.int .i64 0) 1 8 Try.underlying23 hi hz0 hz1 hz2 rfl (by decide) (.slice sa C.length sc) C.length (C.map (Value.int .i64)) (by rfl) (World.ownsRow.alloc HO.out _) ⟨wr.heap.size, 0, none⟩ 1 1 [.int .i64 x] (by rfl) (by rfl) (one_new (by simp)) one_int ?c3 ?c4 ?c5 ?_)
            case c3 => unfold maxLen; omega
            case c4 => omega
            case c5 => simp; omega
            intro v' w7 hown' hgrow _
            have R1 := Lib.hid (Own.of (zs := C ++ [x]) hown' (by simp) (by simp))
            have R2 := Lib.hid (Own.below HO.out HB6.out hsz6 hgrow)
            clear hown' hgrow
            go_wp2
            go_roundw
            case rel => exact ⟨_, r, C ++ [x], rfl, rfl, by omega, HCL', HCS', R1, R2⟩
            case measure => simp [intOf]
end Go.Proofs.Ytjpjhpokimdblaa
