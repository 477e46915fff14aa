/-
  The reference's Norm: its walk.
-/
import Derived.Test.YtiddnahipdlgkaaLitN
namespace Go.Proofs.Ytiddnahipdlgkaa
open Go.RowKit Go.Lib
open Go.RowKit (Below)

theorem QuietTo.then_ {w W : World} (h : QuietTo w W) (n : Nat) : QuietTo w (W.drewN n) := by
  obtain ⟨q, rfl⟩ := h; exact ⟨q + n, World.drewN_drewN ..⟩
theorem RefAt.quiet {W W' w : World} {v : Value} {out zs : List Int} {k : Nat} (h : RefAt W w v out zs k) (hq : QuietTo W W') : RefAt W' w v out zs k := by
  obtain ⟨q, rfl⟩ := hq; exact h.drewN q
theorem IntsR.quiet {W W' : World} {a : Option Addr} {zs : List Int} (h : IntsR W a zs) (hq : QuietTo W W') : IntsR W' a zs := by
  obtain ⟨q, rfl⟩ := hq; exact h

def Gaps (out : List Int) (k : Nat) : Prop := ∀ i x y, i < k → out[i]? = some x → out[i + 1]? = some y → au x ≠ au y

theorem Gaps.succ {out : List Int} {k : Nat} {x y : Int} (h : Gaps out k) (hx : out[k]? = some x) (hy : out[k + 1]? = some y) (hne : au x ≠ au y) : Gaps out (k + 1) := by
  intro i a b hi ha hb
  by_cases e : i = k
  · subst e; rw [hx] at ha; rw [hy] at hb; injection ha with ha; injection hb with hb; rw [← ha, ← hb]; exact hne
  · exact h i a b (by omega) ha hb
/-- Of a strict list without gaps no two have one variable. -/
theorem Gaps.apart {out : List Int} (h : Gaps out (out.length - 1)) (hs : Strict out) : ∀ x y, x ∈ out → y ∈ out → au x = au y → x = y := by
  have key : ∀ i j (hi : i < out.length) (hj : j < out.length), i < j → au out[i] < au out[j] := by
    intro i j hi hj hij
    have h1 : lessB out[i] out[i + 1] = true := List.pairwise_iff_getElem.1 hs i (i + 1) hi (by omega) (by omega)
    have h2 : au out[i] ≠ au out[i + 1] := h i out[i] out[i + 1] (by omega) (by simp) (by simp)
    have h3 : au out[i] < au out[i + 1] := by rw [lessB_iff] at h1; omega
    by_cases e : i + 1 = j
    · subst e; exact h3
    · have h4 := List.pairwise_iff_getElem.1 hs (i + 1) j (by omega) hj (by omega)
      rw [lessB_iff] at h4; omega
  intro x y hx hy he
  obtain ⟨i, hi, rfl⟩ := List.mem_iff_getElem.1 hx
  obtain ⟨j, hj, rfl⟩ := List.mem_iff_getElem.1 hy
  rcases Nat.lt_trichotomy i j with h1 | h1 | h1
  · have := key i j hi hj h1; omega
  · subst h1; rfl
  · have := key j i hj hi h1; omega
theorem RefAt.good {W w : World} {v : Value} {out zs : List Int} (h : RefAt W w v out zs zs.length) (hg : Gaps out (out.length - 1)) : normB zs = (out, false) := by
  have hs : NormSpec zs out false := ⟨by simp, fun _ => ⟨?_, h.strict, fun x => by rw [h.mem, List.take_length]⟩⟩
  · have := (normB_spec zs).unique hs
    exact Prod.ext this.1 this.2
  · rintro ⟨x, y, hx, hy, h1, h2, h3, h4⟩
    exact h3 (hg.apart h.strict x y ((h.mem x).2 ⟨by rw [List.take_length]; exact hx, h1⟩) ((h.mem y).2 ⟨by rw [List.take_length]; exact hy, h2⟩) h4)
theorem RefAt.bad {W w : World} {v : Value} {out zs : List Int} {k : Nat} {x y : Int} (h : RefAt W w v out zs zs.length) (hx : out[k]? = some x) (hy : out[k + 1]? = some y) (he : au x = au y) : normB zs = ([], true) := by
  obtain ⟨hk, rfl⟩ := List.getElem?_eq_some_iff.1 hx
  obtain ⟨hk1, rfl⟩ := List.getElem?_eq_some_iff.1 hy
  have h1 := (h.mem out[k]).1 (by simp)
  have h2 := (h.mem out[k + 1]).1 (by simp)
  rw [List.take_length] at h1 h2
  have h3 := List.pairwise_iff_getElem.1 h.strict k (k + 1) hk hk1 (by omega)
  have hne : out[k] ≠ out[k + 1] := fun e => by rw [e, lessB_irrefl] at h3; cases h3
  have hs : NormSpec zs [] true := ⟨fun _ => ⟨rfl, _, _, h1.1, h2.1, h1.2, h2.2, hne, he⟩, by simp⟩
  have := (normB_spec zs).unique hs
  exact Prod.ext this.1 this.2

set_option maxRecDepth 100000 in
set_option maxHeartbeats 4000000 in
theorem refNorm_any (c : Option Addr) (cc : Nat) (zs : List Int) (w : World) (hm : zs.length * 8 ≤ 140737488351232) (h : IntsR w c zs) :
    Calls Try.prog 17 #[.slice c zs.length cc] w fun e w' => ∃ a c2, e = .returned (.tuple #[.slice a (normB zs).1.length c2, .bool (normB zs).2]) ∧ IntsR w' a (normB zs).1 ∧ Below w.heap.size w w' := by
  obtain ⟨i0, hi, hz0, hz1, hz2⟩ := info_parts Try.info3
  go_enter Try.func17, Try.ntmps17
  go_wp2
  go_loopw [4, 5] (fun v i wr => ∃ (k : Nat) (out : List Int), i = .int .i64 k ∧ RefAt wr w v out zs k) (fun _ i _ => zs.length - (intOf i).toNat)
  case atStart => exact ⟨0, [], rfl, ⟨Nat.zero_le _, Nat.zero_le _, World.ownsRow_nil _ _ _ _, Below.refl _ _, List.Pairwise.nil, by simp⟩⟩
  case round =>
    obtain ⟨k, out, rfl, hN⟩ := hrel
    have hk := hN.hk
    have hle := hN.le
    have hsz : w.heap.size ≤ wr.heap.size := hN.below.size
    have HN := Lib.hid hN
    obtain ⟨a, cap, rfl, hR⟩ := hN.own.reads
    clear hN
    by_cases hlt : k < zs.length
    · have hRc := h.below HN.out.below
      obtain ⟨b, off, x, rfl, HX, hcx⟩ := hRc.at hlt
      clear hRc
      by_cases hx0 : x = 0
      · have hfin := Lib.hid (HN.out.skip HX.out (.inl hx0))
        subst hx0
        clear h
        go_wp2
        go_roundw
        case rel => exact ⟨k + 1, out, by go_num, hfin.out⟩
        case measure => simp [intOf]; omega
      have e0 : (x == 0) = false := by simp [hx0]
      have HX0 := Lib.hid hx0
      have HCX : Hid (∀ {W : World}, Below w.heap.size w W → W.cell? ⟨b, off + k, none⟩ = some (.int .i64 x)) := by
        intro W hW
        rcases h with h | ⟨b', off', ha, hs, hc⟩
        · omega
        · injection ha with ha
          injection ha with h1 h2
          subst h1; subst h2
          rw [hW.cell (p := ⟨b, off + k, none⟩) hs, hc k hlt]
          have := HX.out
          rw [getD_some zs 0 k hlt] at this
          rw [Option.some.inj this]
      obtain ⟨wo, rfl⟩ : ∃ wo : World, wo = wr := ⟨_, rfl⟩
      have HO := Lib.hid (fun W (hq : QuietTo wo W) => (HN.out.quiet hq).own)
      have HB := Lib.hid (fun W (hq : QuietTo wo W) => (HN.out.quiet hq).below)
      clear hx0 h
      go_wp2
      go_loopw [6] (fun at_ wr2 => ∃ j : Nat, at_ = .int .i64 j ∧ j ≤ out.length ∧ Hid (Ahead out x j) ∧ Hid (QuietTo wo wr2)) (fun at_ _ => out.length - (intOf at_).toNat)
      case atStart => exact ⟨0, rfl, Nat.zero_le _, Ahead.zero _ _, ⟨0, rfl⟩⟩
      case round =>
        obtain ⟨j, rfl, hj, HA, HQ⟩ := hrel
        have hcx3 := HCX.out (HB.out _ HQ.out)
        have hR3 := hR.quiet HQ.out
        have hsz3 : w.heap.size ≤ wr.heap.size := (HB.out _ HQ.out).size
        clear hcx hR
        by_cases hjl : j < out.length
        · obtain ⟨b2, off2, y, rfl, HY, hcy⟩ := hR3.at hjl
          clear hR3
          cases hl : lessB y x
          · have HL := Lib.hid hl
            have HP : Hid (Place out x j) := ⟨HA.out, fun z hz => by have := HY.out; rw [this] at hz; injection hz with hz; rw [← hz]; exact hl⟩
            clear hl
            by_cases hyx : y = x
            · have hfin := Lib.hid (fun W (hq : QuietTo wo W) => (HN.out.skip HX.out (.inr (by rw [← hyx]; exact List.mem_of_getElem? HY.out))).quiet hq)
              subst hyx
              go_wp2
              go_quiet ((go_at_call 20; exact Calls.quiet_of_same (refLess_is _ _ _ HL _)))
              go_wp2
              go_quiet (fail)
              go_wp2
              go_roundw
              case rel => exact ⟨k + 1, out, by go_num, hfin.out _ (HQ.out.then_ _)⟩
              case measure => simp [intOf]; omega
            · have e1 : (y == x) = false := by simp [hyx]
              have HNE : Hid (∀ z, out[j]? = some z → z ≠ x) := fun z hz => by have := HY.out; rw [this] at hz; injection hz with hz; rw [← hz]; exact hyx
              clear hyx
              go_wp2
              go_quiet ((go_at_call 20; exact Calls.quiet_of_same (refLess_is _ _ _ HL _)))
              go_wp2
              go_quiet (fail)
              go_wp2_with (at_builtin; refine wpList_append_own _ rfl _ _ 22 rfl w.heap.size 3 i0 (.int .i64 0) 1 8 Try.underlying22 hi hz0 hz1 hz2 rfl (by decide) _ _ _ rfl (World.ownsRow.alloc (HO.out _ (HQ.out.then_ _)) _) ⟨wr.heap.size, 0, none⟩ 1 1 [.int .i64 0] rfl rfl ?c1 ?c2 ?c3 ?c4 ?c5 ?_)
              case c1 =>
                intro i u hj
                match i, hj with
                | 0, hj => simp at hj; subst hj; rw [Addr.add_lit]; exact World.cell?_alloc_at _ _ _ _ (by rfl)
              case c2 => intro u hu; simp at hu; subst hu; rfl
              case c3 => unfold maxLen; omega
              case c4 => omega
              case c5 => simp; omega
              intro v' w1 hown' hgrow _
              have hB1 := Own.below (HO.out _ (HQ.out.then_ _)) (HB.out _ (HQ.out.then_ _)) hsz3 hgrow
              obtain ⟨g, cap2, rfl⟩ := Go.Joins.ownsRow_form hown' (by omega)
              have hO1 : Hid (w1.ownsRow w.heap.size 3 1 (.slice (some ⟨g, 0, none⟩) (out.length + 1) cap2) (out.length + 1) ((out ++ [0]).map (Value.int .i64))) := by unfold Hid; rw [List.map_append]; exact hown'
              have hgB := (hown'.lt g rfl).1
              have HB1 := Lib.hid hB1
              clear hown' hgrow hB1 HO HB
              go_wp2
              go_loopw [7] (fun kk wr2 => ∃ (m : Nat) (cur : List Int), kk = .int .i64 m ∧ j ≤ m ∧ m ≤ out.length ∧ Hid (Gap out cur m) ∧ Hid (wr2.ownsRow w.heap.size 3 1 (.slice (some ⟨g, 0, none⟩) (out.length + 1) cap2) (out.length + 1) (cur.map (Value.int .i64))) ∧ Hid (Below w.heap.size w wr2)) (fun kk _ => (intOf kk).toNat)
              case atStart => exact ⟨out.length, out ++ [0], by go_num, hj, Nat.le_refl _, ⟨0, by simp⟩, hO1, HB1⟩
              case round =>
                clear hO1 HB1
                obtain ⟨m, cur, rfl, hjm, hml, HG, HO2, HB2⟩ := hrel
                have hfr : ∀ i : Nat, wr.frozen? ⟨g, i, none⟩ = false := fun i => HO2.out.frozenAt i
                have hlc := HG.out.length hml
                by_cases hm : j < m
                · obtain ⟨m', rfl⟩ : ∃ m', m = m' + 1 := ⟨m - 1, by omega⟩
                  have hml' : m' < out.length := by omega
                  have hz : out[m']? = some out[m'] := by simp
                  have hrd : wr.cell? ⟨g, m', none⟩ = some (.int .i64 out[m']) := by
                    rw [HO2.out.cellAt m' (by omega), List.getElem?_map, HG.out.read hml']; rfl
                  have hwd : ∃ u, wr.cell? ⟨g, m' + 1, none⟩ = some u := ⟨_, by rw [HO2.out.cellAt (m' + 1) (by omega), List.getElem?_eq_getElem (by simp; omega)]⟩
                  obtain ⟨u, hwd⟩ := hwd
                  have hG2 := Lib.hid (HG.out.step hz)
                  have hO3 : Hid ((wr.setCell ⟨g, m' + 1, none⟩ (.int .i64 out[m'])).ownsRow w.heap.size 3 1 (.slice (some ⟨g, 0, none⟩) (out.length + 1) cap2) (out.length + 1) ((cur.set (m' + 1) out[m']).map (Value.int .i64))) := by
                    unfold Hid; rw [List.map_set]; exact (HO2.out.stored (m' + 1) _).1
                  have hB3 : Hid (Below w.heap.size w (wr.setCell ⟨g, m' + 1, none⟩ (.int .i64 out[m']))) := HB2.out.setCell (p := ⟨g, m' + 1, none⟩) hgB _
                  have hf1 := hfr (m' + 1)
                  generalize out[m'] = z at hrd hG2 hO3 hB3
                  clear hfr hz hlc HG HO2 HB2
                  go_wp2
                  go_roundw
                  case rel => exact ⟨m', _, by go_num, by omega, by omega, hG2, hO3, hB3⟩
                  case measure => simp [intOf]
                · obtain rfl : m = j := by omega
                  have hwd : ∃ u, wr.cell? ⟨g, m, none⟩ = some u := ⟨_, by rw [HO2.out.cellAt m (by omega), List.getElem?_eq_getElem (by simp; omega)]⟩
                  obtain ⟨u, hwd⟩ := hwd
                  have hcx2 := (HCX.out HB2.out)
                  have hf1 := hfr m
                  have hO3 : Own (wr.setCell ⟨g, m, none⟩ (.int .i64 x)) w.heap.size (.slice (some ⟨g, 0, none⟩) (out.length + 1) cap2) (out.take m ++ x :: out.drop m) :=
                    Own.of (HO2.out.stored m (.int .i64 x)).1 (by simp; omega) (by rw [← List.map_set, HG.out.fill hml])
                  have hfin := Lib.hid (HN.out.insert HX.out HX0.out hml HP.out HNE.out hO3 (HB2.out.setCell (p := ⟨g, m, none⟩) hgB _))
                  clear hfr hO3 HG HO2 HB2 hlc
                  go_wp2
                  go_roundw
                  case rel => exact ⟨k + 1, _, by go_num, hfin.out⟩
                  case measure => simp [intOf]; omega
          · have HL := Lib.hid hl
            have hA := Lib.hid (HA.out.succ HY.out hl)
            clear hl
            go_wp2
            go_quiet ((go_at_call 20; exact Calls.quiet_of_same (refLess_is _ _ _ HL _)))
            go_wp2
            go_roundw
            case rel => exact ⟨j + 1, by go_num, by omega, hA.out, HQ.out.then_ _⟩
            case measure => simp [intOf]; omega
        · have hjn : Hid (out[j]? = none) := List.getElem?_eq_none (by omega)
          have HP : Hid (Place out x j) := ⟨HA.out, fun z hz => by rw [hjn.out] at hz; cases hz⟩
          have HNE : Hid (∀ z, out[j]? = some z → z ≠ x) := fun z hz => by rw [hjn.out] at hz; cases hz
          go_wp2
          go_quiet (fail)
          go_wp2
          go_quiet (fail)
          go_wp2_with (at_builtin; refine wpList_append_own _ rfl _ _ 22 rfl w.heap.size 3 i0 (.int .i64 0) 1 8 Try.underlying22 hi hz0 hz1 hz2 rfl (by decide) _ _ _ rfl (World.ownsRow.alloc (HO.out _ (HQ.out.then_ _)) _) ⟨wr.heap.size, 0, none⟩ 1 1 [.int .i64 0] rfl rfl ?c1 ?c2 ?c3 ?c4 ?c5 ?_)
          case c1 =>
            intro i u hj
            match i, hj with
            | 0, hj => simp at hj; subst hj; rw [Addr.add_lit]; exact World.cell?_alloc_at _ _ _ _ (by rfl)
          case c2 => intro u hu; simp at hu; subst hu; rfl
          case c3 => unfold maxLen; omega
          case c4 => omega
          case c5 => simp; omega
          intro v' w1 hown' hgrow _
          have hB1 := Own.below (HO.out _ (HQ.out.then_ _)) (HB.out _ (HQ.out.then_ _)) hsz3 hgrow
          obtain ⟨g, cap2, rfl⟩ := Go.Joins.ownsRow_form hown' (by omega)
          have hO1 : Hid (w1.ownsRow w.heap.size 3 1 (.slice (some ⟨g, 0, none⟩) (out.length + 1) cap2) (out.length + 1) ((out ++ [0]).map (Value.int .i64))) := by unfold Hid; rw [List.map_append]; exact hown'
          have hgB := (hown'.lt g rfl).1
          have HB1 := Lib.hid hB1
          clear hown' hgrow hB1 HO HB
          go_wp2
          go_loopw [7] (fun kk wr2 => ∃ (m : Nat) (cur : List Int), kk = .int .i64 m ∧ j ≤ m ∧ m ≤ out.length ∧ Hid (Gap out cur m) ∧ Hid (wr2.ownsRow w.heap.size 3 1 (.slice (some ⟨g, 0, none⟩) (out.length + 1) cap2) (out.length + 1) (cur.map (Value.int .i64))) ∧ Hid (Below w.heap.size w wr2)) (fun kk _ => (intOf kk).toNat)
          case atStart => exact ⟨out.length, out ++ [0], by go_num, hj, Nat.le_refl _, ⟨0, by simp⟩, hO1, HB1⟩
          case round =>
            clear hO1 HB1
            obtain ⟨m, cur, rfl, hjm, hml, HG, HO2, HB2⟩ := hrel
            have hfr : ∀ i : Nat, wr.frozen? ⟨g, i, none⟩ = false := fun i => HO2.out.frozenAt i
            have hlc := HG.out.length hml
            by_cases hm : j < m
            · exfalso; omega
            · obtain rfl : m = j := by omega
              have hwd : ∃ u, wr.cell? ⟨g, m, none⟩ = some u := ⟨_, by rw [HO2.out.cellAt m (by omega), List.getElem?_eq_getElem (by simp; omega)]⟩
              obtain ⟨u, hwd⟩ := hwd
              have hcx2 := (HCX.out HB2.out)
              have hf1 := hfr m
              have hO3 : Own (wr.setCell ⟨g, m, none⟩ (.int .i64 x)) w.heap.size (.slice (some ⟨g, 0, none⟩) (out.length + 1) cap2) (out.take m ++ x :: out.drop m) :=
                Own.of (HO2.out.stored m (.int .i64 x)).1 (by simp; omega) (by rw [← List.map_set, HG.out.fill hml])
              have hfin := Lib.hid (HN.out.insert HX.out HX0.out hml HP.out HNE.out hO3 (HB2.out.setCell (p := ⟨g, m, none⟩) hgB _))
              clear hfr hO3 HG HO2 HB2 hlc
              go_wp2
              go_roundw
              case rel => exact ⟨k + 1, _, by go_num, hfin.out⟩
              case measure => simp [intOf]; omega
    · obtain rfl : k = zs.length := by omega
      have hol : out.length ≤ zs.length := hle
      obtain ⟨wo, rfl⟩ : ∃ wo : World, wo = wr := ⟨_, rfl⟩
      clear h
      go_wp2
      go_loopw [8] (fun i wr2 => ∃ j : Nat, i = .int .i64 j ∧ (j = 0 ∨ j + 1 ≤ out.length) ∧ Hid (Gaps out j) ∧ Hid (QuietTo wo wr2)) (fun i _ => out.length - (intOf i).toNat)
      case atStart => exact ⟨0, rfl, .inl rfl, fun i x y hi => by omega, ⟨0, rfl⟩⟩
      case round =>
        obtain ⟨j, rfl, hj, HG, HQ⟩ := hrel
        have hR3 := hR.quiet HQ.out
        have hj2 : j ≤ zs.length := by omega
        clear hR
        by_cases hjl : j + 1 < out.length
        · obtain ⟨b1, off1, x, ha1, HX, hcx⟩ := hR3.at (k := j) (by omega)
          obtain ⟨b2, off2, y, ha2, HY, hcy⟩ := hR3.at hjl
          subst ha1
          injection ha2 with ha2
          injection ha2 with ha2 ha3
          subst ha2; subst ha3
          clear hR3
          by_cases he : au x = au y
          · have hn := Lib.hid (HN.out.bad HX.out HY.out he)
            have e1 : (au x == au y) = true := by simp [he]
            clear he
            go_wp2
            go_quiet ((go_at_call 25; exact Calls.quiet_of_same (size_q _ _)))
            go_wp2
            go_ret2
            rw [hn.out]
            exact ⟨none, 0, rfl, .inl rfl, (HN.out.quiet (HQ.out.then_ _)).below⟩
          · have hg := Lib.hid (HG.out.succ HX.out HY.out he)
            have e1 : (au x == au y) = false := by simp [he]
            clear he
            go_wp2
            go_quiet ((go_at_call 25; exact Calls.quiet_of_same (size_q _ _)))
            go_wp2
            go_roundw
            case rel => exact ⟨j + 1, by go_num, by omega, hg.out, HQ.out.then_ _⟩
            case measure => simp [intOf]; omega
        · have hn := Lib.hid (HN.out.good (fun i x y hi hx hy => HG.out i x y (by omega) hx hy))
          have hR4 := Lib.hid hR3
          clear hR3
          go_wp2
          go_ret2
          rw [hn.out]
          exact ⟨_, _, rfl, hR4.out, (HN.out.quiet HQ.out).below⟩
end Go.Proofs.Ytiddnahipdlgkaa
