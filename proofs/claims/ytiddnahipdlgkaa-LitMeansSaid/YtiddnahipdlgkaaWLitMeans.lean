/-
  LitMeans' walk.
-/
import Derived.Test.YtiddnahipdlgkaaWLitNorms
import Derived.Test.YtiddnahipdlgkaaWLitOpposites
import Derived.OwnWalk
namespace Go.Proofs.Ytiddnahipdlgkaa
open Go.RowKit Go.Lib
open Go.RowKit (Below)

theorem Try.info4 : (Try.prog.info? 4).map (fun i => (i.zero, i.size, i.bytes)) = some (some (.bool false), 1, 1) := by kernel_rfl

theorem i8_range {z : Int} (h : (Lit.int .i8 z).wf = true) : -128 ≤ z ∧ z ≤ 127 := by
  unfold Lit.wf at h
  rw [Bool.and_eq_true, decide_eq_true_eq, decide_eq_true_eq] at h
  exact h

/-- A row of bools that the call made itself. -/
def BoolRow (w : World) (B g : Nat) (bs : List Bool) : Prop := w.ownsRow B 4 1 (.slice (some ⟨g, 0, none⟩) bs.length bs.length) bs.length (bs.map Value.bool)
theorem BoolRow.reads {w : World} {B g : Nat} {bs : List Bool} (h : BoolRow w B g bs) : BoolsR w (some ⟨g, 0, none⟩) bs := by
  by_cases h0 : bs.length = 0
  · exact .inl h0
  refine .inr ⟨g, 0, rfl, (h.lt g rfl).2, fun j hj => ?_⟩
  rw [Nat.zero_add, World.ownsRow.cellAt h j (by omega), List.getElem?_map, getD_some _ false j hj]; rfl
theorem BoolRow.put {w : World} {B g : Nat} {bs : List Bool} (h : BoolRow w B g bs) (k : Nat) (b : Bool) : BoolRow (w.setCell ⟨g, k, none⟩ (.bool b)) B g (bs.set k b) := by
  unfold BoolRow at *
  rw [List.length_set, List.map_set]
  exact (World.ownsRow.stored h k _).1
theorem BoolRow.there {w : World} {B g : Nat} {bs : List Bool} (h : BoolRow w B g bs) {k : Nat} (hk : k < bs.length) : ∃ b, w.cell? ⟨g, k, none⟩ = some (.bool b) :=
  ⟨bs[k], by rw [World.ownsRow.cellAt h k (by omega), List.getElem?_map]; simp [hk]⟩

/-- The literals that the statement makes of small numbers. -/
def litsOf (zs : List Int) : List Int := (zs.map fun z => z.tmod 31).filter fun v => v != 0
theorem litsOf_keep {zs : List Int} {k : Nat} {z : Int} (hz : zs[k]? = some z) (h : z.tmod 31 ≠ 0) : litsOf (zs.take (k + 1)) = litsOf (zs.take k) ++ [z.tmod 31] := by
  unfold litsOf; rw [take_snoc _ _ _ hz]; simp [h]
theorem litsOf_drop {zs : List Int} {k : Nat} {z : Int} (hz : zs[k]? = some z) (h : z.tmod 31 = 0) : litsOf (zs.take (k + 1)) = litsOf (zs.take k) := by
  unfold litsOf; rw [take_snoc _ _ _ hz]; simp [h]
theorem litsOf_le (zs : List Int) (k : Nat) : (litsOf (zs.take k)).length ≤ k := by
  unfold litsOf
  refine Nat.le_trans (List.length_filter_le _ _) ?_
  simp; omega
theorem litsOf_range (zs : List Int) : ∀ x ∈ litsOf zs, -30 ≤ x ∧ x ≤ 30 ∧ x ≠ 0 := by
  intro x hx
  unfold litsOf at hx
  rw [List.mem_filter, List.mem_map] at hx
  obtain ⟨⟨z, _, rfl⟩, h⟩ := hx
  have h1 := Int.lt_tmod_of_pos z (show (0 : Int) < 31 by omega)
  have h2 := Int.tmod_lt_of_pos z (show (0 : Int) < 31 by omega)
  refine ⟨by omega, by omega, by simpa using h⟩

theorem means_yes (m : List Bool) (hm : m.length = 30) (l : List Int) (hl : ∀ x ∈ l, -30 ≤ x ∧ x ≤ 30 ∧ x ≠ 0) (hc : Clash l) : l.any (holdsL m) = true := by
  obtain ⟨x, y, hx, hy, h1, h2, h3, h4⟩ := hc
  obtain ⟨a1, a2, _⟩ := hl x hx
  obtain ⟨b1, b2, _⟩ := hl y hy
  rw [au_small x (by omega) (by omega), au_small y (by omega) (by omega)] at h4
  have hxy : y = -x := by omega
  subst hxy
  rw [List.any_eq_true]
  rcases opposites m x (by omega) (by omega) with ⟨_, _, h⟩ | ⟨_, _, h, h'⟩ | ⟨h, _⟩ | ⟨_, h, _⟩
  · omega
  · omega
  · exact ⟨x, hx, h⟩
  · exact ⟨-x, hy, h⟩
theorem means_no (m : List Bool) (l r : List Int) (hl : ∀ x ∈ l, -30 ≤ x ∧ x ≤ 30 ∧ x ≠ 0) (hr : ∀ x, x ∈ r ↔ x ∈ l ∧ x ≠ 0) : r.any (holdsL m) = l.any (holdsL m) := by
  rw [Bool.eq_iff_iff, List.any_eq_true, List.any_eq_true]
  constructor
  · rintro ⟨x, hx, h⟩; exact ⟨x, ((hr x).1 hx).1, h⟩
  · rintro ⟨x, hx, h⟩; exact ⟨x, (hr x).2 ⟨hx, (hl x hx).2.2⟩, h⟩
/-- What Norm returns of such a list, and what it means. -/
theorem means (m : List Bool) (hm : m.length = 30) (l : List Int) (hl : ∀ x ∈ l, -30 ≤ x ∧ x ≤ 30 ∧ x ≠ 0) :
    (normB l = ([], true) ∧ l.any (holdsL m) = true) ∨ (∃ r q, normB l = (r, false) ∧ l.any (holdsL m) = q ∧ r.any (holdsL m) = q) := by
  have hs := normB_spec l
  cases h : (normB l).2
  · exact .inr ⟨(normB l).1, _, Prod.ext rfl h, rfl, means_no m l _ hl (hs.no h).2.2⟩
  · exact .inl ⟨Prod.ext (hs.yes h).1 h, means_yes m hm l hl (hs.yes h).2⟩

set_option maxRecDepth 100000 in
set_option maxHeartbeats 4000000 in
theorem litMeans_walk (w : World) (a : Option Addr) (c : Nat) (zs : List Int) (hR : zs.length = 0 ∨ ∃ b off, a = some ⟨b, off, none⟩ ∧ b < w.heap.size ∧ ∀ j, j < zs.length → w.cell? ⟨b, off + j, none⟩ = some (.int .i8 (zs.getD j 0))) (hwf : ∀ x ∈ zs, (Lit.int .i8 x).wf = true) (hm : zs.length ≤ maxLen) (values : Int) (_ : (Lit.int .u32 values).wf = true) :
    Calls Try.prog 8 #[.slice a zs.length c, .int .u32 values] w fun e w' => e = .returned (.bool true) ∧ Below w.heap.size w w' := by
  unfold maxLen at hm
  by_cases hl : 60 < zs.length
  · have hK := known_any w
    go_enter Try.func8, Try.ntmps8
    go_wp2_with (go_at_call 12; refine hK.mono ?_; rintro e w' ⟨rfl, hB⟩)
    go_ret
    exact ⟨rfl, hB⟩
  · have hl' : zs.length ≤ 60 := by omega
    clear hl
    obtain ⟨i0, hi, hz0, hz1, hz2⟩ := info_parts Try.info3
    obtain ⟨j0, hj, hy0, hy1, hy2⟩ := info_parts Try.info4
    have HR := Lib.hid hR
    clear hR
    go_enter Try.func8, Try.ntmps8
    go_wp2_with (at_make; refine wpList_make_full _ rfl _ _ 35 rfl w.heap.size 4 j0 (.bool false) 1 Try.underlying35 hj hy0 hy1 .i64 .i64 _ _ 30 rfl rfl rfl rfl (by rw [hy2]; omega) (by unfold maxLen; omega) (Nat.le_refl _) ?_; intro w1 hown0 hgrow0)
    have hO : Hid (BoolRow w1 w.heap.size w.heap.size (List.replicate 30 false)) := by
      unfold Hid BoolRow
      have e : (madeCells (Value.bool false).cells (30 * 1)).toList = (List.replicate 30 false).map Value.bool := (toList_madeCells_one (Value.bool false) 30).trans (by simp)
      rw [e] at hown0
      exact hown0
    have hB : Hid (Below w.heap.size w w1) := (Below.refl _ _).grown hgrow0 (Nat.le_refl _) (fun k hk => by cases hk)
    clear hown0 hgrow0
    go_wp2
    go_loopw [6] (fun i wr => ∃ (k : Nat) (bs : List Bool), i = .int .i64 k ∧ k ≤ 30 ∧ Hid (bs.length = 30) ∧ Hid (BoolRow wr w.heap.size w.heap.size bs) ∧ Hid (Below w.heap.size w wr)) (fun i _ => 30 - (intOf i).toNat)
    case atStart => exact ⟨0, List.replicate 30 false, rfl, by omega, by unfold Hid; simp, hO, hB⟩
    case round =>
      clear hO hB
      obtain ⟨k, bs, rfl, hk, HL, HO, HB⟩ := hrel
      by_cases hlt : k < 30
      · have hfr : wr.frozen? ⟨w.heap.size, k, none⟩ = false := World.ownsRow.frozenAt HO.out k
        obtain ⟨b0, hc0⟩ := HO.out.there (k := k) (by rw [HL.out]; exact hlt)
        have hP := Lib.hid (fun b => HO.out.put k b)
        have hQ := Lib.hid (fun b => HB.out.setCell (p := ⟨w.heap.size, k, none⟩) (Nat.le_refl _) (.bool b))
        have hL : Hid (∀ b, (bs.set k b).length = 30) := fun b => by rw [List.length_set]; exact HL.out
        clear HO HB HL
        go_wp2
        go_roundw
        case rel => exact ⟨k + 1, _, by go_num, by omega, hL.out _, hP.out _, hQ.out _⟩
        case measure => simp [intOf]; omega
      · obtain ⟨wm, rfl⟩ : ∃ wm : World, wm = wr := ⟨_, rfl⟩
        go_wp2
        go_loopw [7, 8] (fun v i wr => ∃ k : Nat, i = .int .i64 k ∧ k ≤ zs.length ∧ Hid (Own wr wm.heap.size v (litsOf (zs.take k))) ∧ Hid (Below wm.heap.size wm wr)) (fun _ i _ => zs.length - (intOf i).toNat)
        case atStart => exact ⟨0, rfl, Nat.zero_le _, World.ownsRow_nil _ _ _ _, Below.refl _ _⟩
        case round =>
          obtain ⟨k', rfl, hk', HO2, HB2⟩ := hrel
          have hsz := HB2.out.size
          have hle := litsOf_le zs k'
          by_cases hlt2 : k' < zs.length
          · have hsz0 := HB.out.size
            obtain ⟨b, off, z, rfl, HZ, hcz, hz1', hz2'⟩ : ∃ b off z, a = some ⟨b, off, none⟩ ∧ Hid (zs[k']? = some z) ∧ wr.cell? ⟨b, off + k', none⟩ = some (.int .i8 z) ∧ -128 ≤ z ∧ z ≤ 127 := by
              rcases HR.out with h | ⟨b, off, ha, hs, hc⟩
              · omega
              · have hg := getD_some zs 0 k' hlt2
                have hwz := hwf _ (List.mem_of_getElem? hg)
                refine ⟨b, off, _, ha, hg, ?_, i8_range hwz⟩
                · rw [HB2.out.cell (p := ⟨b, off + k', none⟩) (Nat.lt_of_lt_of_le hs hsz0), HB.out.cell (p := ⟨b, off + k', none⟩) hs]; exact hc k' hlt2
            by_cases hv : z.tmod 31 = 0
            · have hO3 : Hid (Own wr wm.heap.size u7 (litsOf (zs.take (k' + 1)))) := by unfold Hid; rw [litsOf_drop HZ.out hv]; exact HO2.out
              have e0 : (z.tmod 31 == 0) = true := by simp [hv]
              have e1 : (z.tmod 31 != 0) = false := by simp [hv]
              clear HO2 hv
              go_wp2
              go_roundw
              case rel => exact ⟨k' + 1, by go_num, by omega, hO3, HB2⟩
              case measure => simp [intOf]; omega
            · have e0 : (z.tmod 31 == 0) = false := by simp [hv]
              have e1 : (z.tmod 31 != 0) = true := by simp [hv]
              go_wp2_with (at_builtin; refine wpList_append_own _ rfl _ _ 22 rfl wm.heap.size 3 i0 (.int .i64 0) 1 8 Try.underlying22 hi hz0 hz1 hz2 rfl (by decide) _ _ _ rfl (World.ownsRow.alloc HO2.out _) ⟨wr.heap.size, 0, none⟩ 1 1 [.int .i64 (z.tmod 31)] rfl rfl ?c1 ?c2 ?c3 ?c4 ?c5 ?_)
              case c1 =>
                intro j u hj
                match j, hj with
                | 0, hj => simp at hj; subst hj; rw [Addr.add_lit]; exact World.cell?_alloc_at _ _ _ _ (by rfl)
              case c2 => intro u hu; simp at hu; subst hu; rfl
              case c3 => unfold maxLen; omega
              case c4 => omega
              case c5 => simp; omega
              intro v' w2 hown' hgrow _
              have R1 := Lib.hid (Own.of (zs := litsOf (zs.take (k' + 1))) hown' (by rw [litsOf_keep HZ.out hv]; simp) (by rw [litsOf_keep HZ.out hv]; simp))
              have R2 := Lib.hid (Own.below HO2.out HB2.out hsz hgrow)
              clear hown' hgrow HO2 HB2
              go_wp2
              go_roundw
              case rel => exact ⟨k' + 1, by go_num, by omega, R1, R2⟩
              case measure => simp [intOf]; omega
          · have hkz : litsOf (zs.take k') = litsOf zs := by rw [List.take_of_length_le (by omega)]
            have hown := HO2.out
            rw [hkz] at hown hle
            obtain ⟨al, cl, rfl, hRl⟩ := hown.reads
            have hRm := HO.out.reads.below HB2.out
            have BB := Lib.hid (HB.out.trans (HB2.out.mono HB.out.size))
            have hrange := litsOf_range zs
            generalize litsOf zs = l at hown hle hRl hrange ⊢
            obtain ⟨nl, hnl⟩ : ∃ nl, l.length = nl := ⟨_, rfl⟩
            have hbs : Hid (bs.length = 30) := HL
            have HNL := Lib.hid hnl
            rw [hnl] at hle ⊢
            have hM := means bs hbs.out l hrange
            clear hown hkz HO2 HB2 HO HB HL hnl hrange HR
            rcases hM with ⟨hn, hq⟩ | ⟨r, q, hn, hq, hq2⟩
            · have HN := Lib.hid hn
              clear hn
              go_wp2_with fail
              refine (norm_is HNL.out (show ([] : List Int).length = 0 from rfl) HN.out al cl wr (by omega) hRl).mono ?_
              rintro e w5 ⟨a3, c3, rfl, hR3, hB5⟩
              have hRl5 := hRl.below hB5
              have hRm5 := hRm.below hB5
              have B5 := Lib.hid (BB.out.trans (hB5.mono BB.out.size))
              clear hRl hRm hB5 BB
              go_wp2_with fail
              refine (holds_is hbs.out HNL.out hq _ _ _ _ w5 (by unfold maxLen; omega) (by unfold maxLen; omega) hRm5 hRl5).mono ?_
              rintro e w6 ⟨rfl, rfl⟩
              go_wp2_with fail
              refine (known_any _).mono ?_
              rintro e w6 ⟨rfl, hB6⟩
              go_wp2
              go_ret
              exact ⟨rfl, B5.out.trans (hB6.mono B5.out.size)⟩
            · have HN := Lib.hid hn
              have hrl := normB_length l
              rw [hn] at hrl
              obtain ⟨nr, hnr⟩ : ∃ nr, r.length = nr := ⟨_, rfl⟩
              have HNR := Lib.hid hnr
              have hnrl : nr ≤ nl := by have h1 : r.length ≤ l.length := hrl; have := HNL.out; omega
              have hzero : Hid (nr = 0 → q = false) := fun h0 => by
                rw [← hq2, List.eq_nil_of_length_eq_zero (hnr.trans h0)]; rfl
              clear hn hrl hnr
              go_wp2_with fail
              refine (norm_is HNL.out HNR.out HN.out al cl wr (by omega) hRl).mono ?_
              rintro e w5 ⟨a3, c3, rfl, hR3, hB5⟩
              have hRl5 := hRl.below hB5
              have hRm5 := hRm.below hB5
              have B5 := Lib.hid (BB.out.trans (hB5.mono BB.out.size))
              clear hRl hRm hB5 BB
              by_cases h0 : nr = 0
              · have hq0 := hzero.out h0
                subst h0
                subst hq0
                go_wp2_with fail
                refine (holds_is hbs.out HNL.out hq _ _ _ _ w5 (by unfold maxLen; omega) (by unfold maxLen; omega) hRm5 hRl5).mono ?_
                rintro e w6 ⟨rfl, rfl⟩
                go_wp2_with fail
                refine (holds_is hbs.out HNL.out hq _ _ _ _ w5 (by unfold maxLen; omega) (by unfold maxLen; omega) hRm5 hRl5).mono ?_
                rintro e w6 ⟨rfl, rfl⟩
                go_wp2_with fail
                refine (holds_is hbs.out HNR.out hq2 _ _ _ _ w5 (by unfold maxLen; omega) (by unfold maxLen; omega) hRm5 hR3).mono ?_
                rintro e w6 ⟨rfl, rfl⟩
                go_wp2_with fail
                refine (known_any _).mono ?_
                rintro e w6 ⟨rfl, hB6⟩
                go_wp2
                go_ret
                exact ⟨rfl, B5.out.trans (hB6.mono B5.out.size)⟩
              · have f0 : ((nr : Int) == 0) = false := by simp; omega
                have hqq : (q == q) = true := by simp
                go_wp2_with fail
                refine (holds_is hbs.out HNL.out hq _ _ _ _ w5 (by unfold maxLen; omega) (by unfold maxLen; omega) hRm5 hRl5).mono ?_
                rintro e w6 ⟨rfl, rfl⟩
                go_wp2_with fail
                refine (holds_is hbs.out HNR.out hq2 _ _ _ _ w5 (by unfold maxLen; omega) (by unfold maxLen; omega) hRm5 hR3).mono ?_
                rintro e w6 ⟨rfl, rfl⟩
                go_wp2_with fail
                refine (known_any _).mono ?_
                rintro e w6 ⟨rfl, hB6⟩
                go_wp2
                go_ret
                exact ⟨rfl, B5.out.trans (hB6.mono B5.out.size)⟩
end Go.Proofs.Ytiddnahipdlgkaa
