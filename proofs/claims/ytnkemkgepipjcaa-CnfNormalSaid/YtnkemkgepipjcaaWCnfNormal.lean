/-
  CnfNormal's walk.
-/
import Derived.Test.YtnkemkgepipjcaaCnfN
namespace Go.Proofs.Ytnkemkgepipjcaa
open Go.RowKit Go.Lib
open Go.RowKit (Below)

/-- The state of the loop: w1 is the world behind Fit. -/
structure NormsAt (w1 wr : World) (N : Int) (u : Value) (L : List (List Int)) (k : Nat) (v : Value) : Prop where
  f : Two wr w1.heap.size (.int .i64 N) u
  g : Two wr (w1.heap.size + 1) (.int .i64 N) v
  built : Built wr (w1.heap.size + 2) v (normL (L.take k))
  below : Below w1.heap.size w1 wr
  size : w1.heap.size + 2 ≤ wr.heap.size
theorem NormsAt.first (w1 : World) (N : Int) (u : Value) (L : List (List Int)) : NormsAt w1 ((w1.alloc (.cells #[.int .i64 N, u] 24)).alloc (.cells #[.int .i64 N, .slice none 0 0] 24)) N u L 0 (.slice none 0 0) where
  f := (Two.new w1 _ _).alloc _
  g := by have := Two.new (w1.alloc (.cells #[.int .i64 N, u] 24)) (.int .i64 N) (.slice none 0 0); simpa using this
  built := by simpa [normL] using Built.nil _ _
  below := ((Below.refl _ _).alloc (Nat.le_refl _) _).alloc (by simp) _
  size := by simp
theorem NormsAt.on {w1 wr w2 : World} {N : Int} {u v : Value} {L : List (List Int)} {k : Nat} (h : NormsAt w1 wr N u L k v) (hb : Below wr.heap.size wr w2) : NormsAt w1 w2 N u L k v where
  f := h.f.below hb (by have := h.size; omega)
  g := h.g.below hb (by have := h.size; omega)
  built := h.built.below hb
  below := h.below.trans (hb.mono (by have := h.size; omega))
  size := by have := h.size; have := hb.size; omega
theorem NormsAt.skip {w1 wr : World} {N : Int} {u v : Value} {L : List (List Int)} {k : Nat} {z : List Int} (h : NormsAt w1 wr N u L k v) (hz : L[k]? = some z) (hn : (normB z).2 = true) : NormsAt w1 wr N u L (k + 1) v where
  f := h.f
  g := h.g
  built := by rw [normL_drop hz hn]; exact h.built
  below := h.below
  size := h.size
theorem NormsAt.split {w1 wo wr : World} {N : Int} {u v : Value} {L : List (List Int)} {k : Nat} (h : NormsAt w1 wo N u L k v) (HB : Below wo.heap.size wo wr) :
    ∃ vs : List Value, wr.ownsRow (w1.heap.size + 2) 36 1 v (normL (L.take k)).length vs ∧ (v.ownBlock = none ∨ ∃ g, v.ownBlock = some g ∧ w1.heap.size + 2 ≤ g ∧ g < wo.heap.size) ∧ ∀ (j : Nat) (z : List Int), (normL (L.take k))[j]? = some z → ∃ u : Value, vs[j]? = some u ∧ InRow wr (w1.heap.size + 2) v u z := by
  obtain ⟨vs, h1, h2⟩ := h.built.below HB
  obtain ⟨us, h3, _⟩ := h.built
  refine ⟨vs, h1, ?_, h2⟩
  cases hv : v.ownBlock with
  | none => exact .inl rfl
  | some g => exact .inr ⟨g, rfl, World.ownsRow.lt h3 g hv⟩
theorem NormsAt.next {w1 wo wr w2 : World} {N : Int} {u v v' : Value} {L : List (List Int)} {k : Nat} {z r : List Int} {vs : List Value} {a1 : Option Addr} {d1 : Nat} {o : Obj} (HF : NormsAt w1 wo N u L k v) (HZ : L[k]? = some z) (hr : normB z = (r, false))
    (HB : Below wo.heap.size wo wr) (hI : IntsR wr a1 r) (hp : ∀ p, a1 = some p → wo.heap.size ≤ p.block ∧ p.block < wr.heap.size)
    (h1 : wr.ownsRow (w1.heap.size + 2) 36 1 v (normL (L.take k)).length vs) (h1o : v.ownBlock = none ∨ ∃ g, v.ownBlock = some g ∧ w1.heap.size + 2 ≤ g ∧ g < wo.heap.size) (h2 : ∀ (j : Nat) (z : List Int), (normL (L.take k))[j]? = some z → ∃ u : Value, vs[j]? = some u ∧ InRow wr (w1.heap.size + 2) v u z)
    (hown : w2.ownsRow (w1.heap.size + 2) 36 1 v' ((normL (L.take k)).length + 1) (vs ++ [.slice a1 r.length d1])) (hg : (wr.alloc o).grownBy w2 v.ownBlock) (hat : v'.ownBlock = v.ownBlock ∨ v'.ownBlock = some (wr.alloc o).heap.size) :
    NormsAt w1 (w2.setCell ⟨w1.heap.size + 1, 1, none⟩ v') N u L (k + 1) v' ∧ Two w2 (w1.heap.size + 1) (.int .i64 N) v := by
  have hs1 := HF.size
  have hs2 := HB.size
  have hne : ∀ j, j < w1.heap.size + 2 → v.ownBlock ≠ some j := by
    intro j hj e
    rcases h1o with h | ⟨g, h, h3, _⟩
    · rw [h] at e; cases e
    · rw [h] at e; injection e with e; omega
  have hnp : ∀ p : Addr, a1 = some p → v.ownBlock ≠ some p.block := by
    intro p hp' e
    have := hp p hp'
    rcases h1o with h | ⟨g, h, _, h4⟩
    · rw [h] at e; cases e
    · rw [h] at e; injection e with e; omega
  have hT1 : Two w2 w1.heap.size (.int .i64 N) u := ((HF.f.below HB (by omega)).alloc o).grown hg (hne _ (by omega))
  have hT2 : Two w2 (w1.heap.size + 1) (.int .i64 N) v := ((HF.g.below HB (by omega)).alloc o).grown hg (hne _ (by omega))
  have hbt : Built w2 (w1.heap.size + 2) v' (normL (L.take k) ++ [r]) :=
    Built.more (w := wr) (w0 := wr.alloc o) h2 h1 (boxed _ _) hg hat hown hI (fun p e => ⟨by have := (hp p e).1; omega, (hp p e).2, hnp p e⟩)
  have hB1 : Below w1.heap.size w1 w2 := by
    refine (HF.below.trans (HB.mono (by omega))).trans ((boxed wr o).mono (by omega) |>.grown hg (by simp; omega) fun j e => ?_)
    rcases h1o with h | ⟨g, h, h3, _⟩
    · rw [h] at e; cases e
    · rw [h] at e; injection e with e; omega
  refine ⟨{ f := hT1.far (by simp) _, g := hT2.set1 v', built := ?_, below := hB1.setCell (p := ⟨w1.heap.size + 1, 1, none⟩) (by simp) _, size := ?_ }, hT2⟩
  · rw [normL_keep HZ (by rw [hr]), hr]; exact hbt.setCell (p := ⟨w1.heap.size + 1, 1, none⟩) (by simp) _
  · have := hg.size; simp at this ⊢; omega

set_option maxRecDepth 100000 in
set_option maxHeartbeats 4000000 in
theorem cnfNormal_walk (w : World) (n : Int) (hn : (Lit.int .u8 n).wf = true) (a : Option Addr) (c : Nat) (zss : List (List Int)) (hR : RowsR .i8 w a zss) (hA : AllLen zss) (hm : zss.length ≤ maxLen) (hw : ∀ z ∈ zss, ∀ n ∈ z, (Lit.int .i8 n).wf = true)
    (bits : Int) (hb : (Lit.int .u16 bits).wf = true) :
    Calls Try.prog 9 #[.int .u8 n, .slice a zss.length c, .int .u16 bits] w fun e w' => e = .returned (.bool true) ∧ Below w.heap.size w w' := by
  obtain ⟨hn0, hn1⟩ := u8_range hn
  obtain ⟨hb0, hb1⟩ := u16_range hb
  obtain ⟨N, hN⟩ : ∃ N : Nat, 1 + n % 12 = (N : Int) := ⟨(1 + n % 12).toNat, by omega⟩
  have hN1 : 1 ≤ N := by omega
  have hN2 : N ≤ 12 := by omega
  have HF := Lib.hid (fit_any n N hn0 hn1 hN a c zss w hR hA hm hw)
  clear hN hR hA hm hw hn hb
  obtain ⟨j0, hj, hy0, hy1, hy2⟩ := info_parts Try.info36
  go_enter Try.func9, Try.ntmps9
  go_wp2_with fail
  refine HF.out.mono ?_
  rintro e w1 (⟨hf, rfl, hB1⟩ | ⟨hf, a1, c1, rfl, hcap, hnil, hR1, hB1⟩)
  · have HB1 := Lib.hid (hB1.alloc hB1.size (.cells #[.int .i64 0, .slice none 0 0] 24))
    clear hB1 hf
    go_wp2_with fail
    refine (known_any _).mono ?_
    rintro e w2 ⟨rfl, hB2⟩
    have HB2 := Lib.hid (HB1.out.trans (hB2.mono HB1.out.size))
    clear hB2
    go_wp2
    go_ret
    exact ⟨rfl, HB2.out⟩
  · have hz := (fitB_parts hf).1
    have hzr := (fitB_parts hf).2
    have HL := Lib.hid (fitL_len N zss)
    have HC := Lib.hid (fitL_check (V := N) (W := N) (by omega) (by omega) (by omega) (by omega) hf)
    have HA := Lib.hid (fitL_all (V := N) hf)
    have HC2 := Lib.hid (normL_check (V := N) (by omega) (by omega) hf)
    have HA2 := Lib.hid (normL_all (V := N) hf)
    have HRG := Lib.hid (fitL_range (V := N) (by omega) (zss := zss))
    have H20 : Hid (∀ z ∈ fitL N zss, z.length ≤ 20) := by
      intro z hz'
      obtain ⟨y, hy, rfl⟩ := List.mem_map.1 hz'
      exact Nat.le_trans (fitZ_le _ _) (hzr y hy)
    have HR1 := Lib.hid hR1
    have HB1 := Lib.hid hB1
    have HN0 := Lib.hid (NormsAt.first w1 N (.slice a1 zss.length c1) (fitL N zss))
    generalize fitL N zss = L at HL HC HA HR1 HC2 HA2 HRG H20 HN0
    clear hB1 hR1 hf HF hzr hcap hnil
    go_wp2
    go_loopw [10] (fun i wr => ∃ (k : Nat) (v : Value), k ≤ zss.length ∧ i = .int .i64 k ∧ Hid (NormsAt w1 wr N (.slice a1 zss.length c1) L k v)) (fun i _ => zss.length - (intOf i).toNat)
    case atStart => exact ⟨0, _, Nat.zero_le _, rfl, HN0.out⟩
    case round =>
      clear HN0
      obtain ⟨k, v, hk, rfl, HN⟩ := hrel
      have cf0 := HN.out.f.c0
      have cf1 := HN.out.f.c1
      by_cases hlt : k < zss.length
      · obtain ⟨b, off, aj, cj, z, rfl, hbs, HZ, hc, HK⟩ := (HR1.out.below HN.out.below).at (j := k) (by rw [HL.out]; exact hlt)
        have hzl := H20.out z (List.mem_of_getElem? HZ.out)
        have hnl := normB_len z
        obtain ⟨r, hr⟩ : ∃ r, (normB z).1 = r := ⟨_, rfl⟩
        rw [hr] at hnl
        have hle := normL_le L k
        cases hal : (normB z).2
        · have hrr : normB z = (r, false) := Prod.ext hr hal
          have HRR := Lib.hid hrr
          clear hr hal hrr
          go_wp2_with fail
          refine (norm_new_is (m := r.length) rfl rfl HRR.out aj cj _ (by omega) HK.out).mono ?_
          rintro e w2 ⟨a2, c2, rfl, hI, hp, hB2⟩
          obtain ⟨vs, h1, h1o, h2⟩ := HN.out.split hB2
          have H1 := Lib.hid h1
          have HX := fun o v' w3 => Lib.hid (NormsAt.next (w2 := w3) (v' := v') (d1 := c2) (o := o) HN.out HZ.out HRR.out hB2 hI hp h1 h1o h2)
          clear cf0 cf1 hc
          have cg1 := (HN.out.on hB2).g.c1
          have hs2 := (HN.out.on hB2).size
          clear hI hp hB2 h1 h1o h2
          go_wp2_with (at_builtin; refine wpList_append_own_at _ rfl _ _ 22 rfl (w1.heap.size + 2) 36 j0 (.slice none 0 0) 1 24 Try.underlying22 hj hy0 hy1 hy2 rfl (by decide) _ _ _ rfl (World.ownsRow.alloc H1.out _) ⟨w2.heap.size, 0, none⟩ 1 1 [.slice a2 r.length c2] rfl rfl (one_new (by rfl)) one_slice ?d3 ?d4 ?d5 ?_)
          case d3 => unfold maxLen; omega
          case d4 => omega
          case d5 => simp; omega
          intro v' w3 hown' hgrow _ hat
          obtain ⟨g9, cap9, rfl⟩ := Go.Joins.ownsRow_form hown' (by omega)
          obtain ⟨hN, hT⟩ := (HX _ _ _).out hown' hgrow (by simpa using hat)
          have HN2 := Lib.hid hN
          have cg2 := hT.c1
          have f2 := hT.free 1
          clear hown' hgrow hat hN hT HX cg1 H1
          go_wp2
          go_roundw
          case rel => exact ⟨k + 1, _, by omega, by go_num, HN2⟩
          case measure => simp [intOf]; omega
        · have hrr : normB z = (r, true) := Prod.ext hr hal
          have HRR := Lib.hid hrr
          have HAL := Lib.hid hal
          clear hr hal hrr
          go_wp2_with fail
          refine (norm_new_is (m := r.length) rfl rfl HRR.out aj cj _ (by omega) HK.out).mono ?_
          rintro e w2 ⟨a2, c2, rfl, hI, hp, hB2⟩
          have HN2 := Lib.hid ((HN.out.on hB2).skip HZ.out HAL.out)
          clear cf0 cf1 hc hI hp hB2
          go_wp2
          go_roundw
          case rel => exact ⟨k + 1, _, by omega, by go_num, HN2⟩
          case measure => simp [intOf]; omega
      · obtain rfl : k = zss.length := by omega
        have hN := HN.out
        have ht : L.take zss.length = L := by rw [List.take_of_length_le (by rw [HL.out]; omega)]
        have hbt := hN.built
        rw [ht] at hbt
        obtain ⟨a3, c3, rfl, _, _, _, hRM⟩ := hbt.rows
        have hml := normL_le L zss.length
        rw [ht] at hml
        have HRM := Lib.hid hRM
        have HRL := Lib.hid (HR1.out.below hN.below)
        have HB3 := Lib.hid (HB1.out.trans (hN.below.mono HB1.out.size))
        have HF1 := Lib.hid hN.f
        have HG1 := Lib.hid hN.g
        have HSZ := Lib.hid hN.size
        obtain ⟨M, hM⟩ : ∃ M, normL L = M := ⟨_, rfl⟩
        obtain ⟨q, hq⟩ : ∃ q, M.length = q := ⟨_, rfl⟩
        have HIF : Hid (∀ m : List Bool, m.length = N → (firstI m L = -1 ↔ firstI m M = -1)) := fun m hm' => by
          rw [← hM]
          exact normL_first (m := m) (by rw [hm']; exact HRG.out) (by omega)
        rw [hM] at HC2 HA2 HRM HG1 hml
        rw [hq] at HG1 hml
        have HQ := Lib.hid hq
        rw [hM, hq] at HN
        clear hN hbt hRM hM hq ht HN HRG H20 HR1
        clear cf0 cf1
        have cf0 := HF1.out.c0
        have cf1 := HF1.out.c1
        go_wp2_with fail
        refine (model_any N (by omega) bits _ hb0 hb1).mono ?_
        rintro e w4 ⟨m, gm, hml2, rfl, hM4, hB4⟩
        have HF4 := Lib.hid (HF1.out.below hB4 (by have := HSZ.out; omega))
        have HG4 := Lib.hid (HG1.out.below hB4 (by have := HSZ.out; omega))
        have HRL4 := Lib.hid (HRL.out.below hB4)
        have HRM4 := Lib.hid (HRM.out.below hB4)
        have HM4 := Lib.hid hM4.reads
        have HML := Lib.hid hml2
        have HB4 := Lib.hid (HB3.out.trans (hB4.mono HB3.out.size))
        have hX := firstN_in (m := m) HC.out (by rw [hml2])
        have hY := firstN_in (m := m) HC2.out (by rw [hml2])
        have hIFF := HIF.out m hml2
        obtain ⟨s, hs⟩ : ∃ s, firstI m L = s := ⟨_, rfl⟩
        obtain ⟨t, ht⟩ : ∃ t, firstI m M = t := ⟨_, rfl⟩
        rw [hs] at hX
        rw [ht] at hY
        rw [hs, ht] at hIFF
        have HX1 := Lib.hid hX.1
        have HX2 := Lib.hid hX.2
        have HY1 := Lib.hid hY.1
        have HY2 := Lib.hid hY.2
        have HIFF := Lib.hid hIFF
        have hsz4 : w1.heap.size + 2 ≤ w4.heap.size := by have := HSZ.out; have := hB4.size; omega
        clear cf0 cf1 hB4 hM4 hml2 hX hY hs ht HF1 HG1 HRL HRM HB3 HSZ hIFF HIF
        have cf0 := HF4.out.c0
        have cf1 := HF4.out.c1
        go_wp2_with fail
        refine (first_is HL.out HML.out HX1.out HX2.out _ _ _ _ _ (by unfold maxLen; omega) HA.out (by unfold maxLen; omega) HRL4.out HM4.out).mono ?_
        rintro e w5 ⟨rfl, hB5⟩
        have HG5 := Lib.hid (HG4.out.below hB5 (by omega))
        have HRM5 := Lib.hid (HRM4.out.below hB5)
        have HM5 := Lib.hid (HM4.out.below hB5)
        have HB5 := Lib.hid (HB4.out.trans (hB5.mono HB4.out.size))
        clear cf0 cf1 hB5 HF4 HG4 HRL4 HRM4 HM4 HB4
        have cg0 := HG5.out.c0
        have cg1 := HG5.out.c1
        go_wp2_with fail
        refine (first_is HQ.out HML.out HY1.out HY2.out _ _ _ _ _ (by unfold maxLen; omega) HA2.out (by unfold maxLen; omega) HRM5.out HM5.out).mono ?_
        rintro e w6 ⟨rfl, hB6⟩
        have HB6 := Lib.hid (HB5.out.trans (hB6.mono HB5.out.size))
        clear cg0 cg1 hB6 HG5 HRM5 HM5 HB5
        by_cases h1 : s = -1
        · have e1 : (s == -1) = true := by simp [h1]
          have e2 : (t == -1) = true := by simp [HIFF.out.1 h1]
          clear h1
          go_wp2_with fail
          refine (known_any _).mono ?_
          rintro e w7 ⟨rfl, hB7⟩
          have HB7 := Lib.hid (HB6.out.trans (hB7.mono HB6.out.size))
          clear hB7
          go_wp2
          go_ret
          exact ⟨rfl, HB7.out⟩
        · have e1 : (s == -1) = false := by simp [h1]
          have e2 : (t == -1) = false := by simp; exact fun e => h1 (HIFF.out.2 e)
          clear h1
          go_wp2_with fail
          refine (known_any _).mono ?_
          rintro e w7 ⟨rfl, hB7⟩
          have HB7 := Lib.hid (HB6.out.trans (hB7.mono HB6.out.size))
          clear hB7
          go_wp2
          go_ret
          exact ⟨rfl, HB7.out⟩
end Go.Proofs.Ytnkemkgepipjcaa
