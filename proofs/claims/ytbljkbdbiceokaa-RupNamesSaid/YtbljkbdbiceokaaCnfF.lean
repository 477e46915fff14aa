/-
  Fit and Model: how the statements make formulas of at most 12 variables and their models.
-/
import Derived.Test.YtbljkbdbiceokaaCnfE
import Derived.OwnWalk
import Derived.IntWalk
namespace Go.Proofs.Ytbljkbdbiceokaa
open Go.RowKit Go.Lib
open Go.RowKit (Below)

def FitPost (w : World) (V : Int) (zss : List (List Int)) (e : Ending) (w' : World) : Prop :=
  (fitB zss = false ∧ e = .returned (.tuple #[.agg #[.int .i64 0, .slice none 0 0], .bool false]) ∧ Below w.heap.size w w') ∨
  (fitB zss = true ∧ ∃ a c, e = .returned (.tuple #[.agg #[.int .i64 V, .slice a zss.length c], .bool true]) ∧ zss.length ≤ c ∧ (a = none → zss.length = 0 ∧ c = 0) ∧ RowsR .i64 w' a (fitL V zss) ∧ Below w.heap.size w w')
def Rows20 (zss : List (List Int)) (k : Nat) : Prop := ∀ j z, j < k → zss[j]? = some z → z.length ≤ 20
theorem Rows20.succ {zss : List (List Int)} {k : Nat} (h : Rows20 zss k) {z : List Int} (hz : zss[k]? = some z) (hl : z.length ≤ 20) : Rows20 zss (k + 1) := fun j y hj hy => by
  by_cases e : j = k
  · subst e; rw [hz] at hy; cases hy; exact hl
  · exact h j y (by omega) hy
theorem i8_range {z : Int} (h : (Lit.int .i8 z).wf = true) : -128 ≤ z ∧ z ≤ 127 := by
  unfold Lit.wf at h
  rw [Bool.and_eq_true, decide_eq_true_eq, decide_eq_true_eq] at h
  exact h
theorem u8_range {z : Int} (h : (Lit.int .u8 z).wf = true) : 0 ≤ z ∧ z ≤ 255 := by
  unfold Lit.wf at h
  rw [Bool.and_eq_true, decide_eq_true_eq, decide_eq_true_eq] at h
  exact h

structure FitAt (w wr : World) (V : Int) (zss : List (List Int)) (k : Nat) (v : Value) : Prop where
  res : Two wr w.heap.size (.int .i64 0) (.slice none 0 0)
  f : Two wr (w.heap.size + 1) (.int .i64 V) v
  built : Built wr (w.heap.size + 2) v (fitL V (zss.take k))
  below : Below w.heap.size w wr
  size : w.heap.size + 2 ≤ wr.heap.size
  rows : Rows20 zss k
theorem FitAt.first (w : World) (V : Int) (zss : List (List Int)) : FitAt w ((w.alloc (.cells #[.int .i64 0, .slice none 0 0] 26)).alloc (.cells #[.int .i64 V, .slice none 0 0] 26)) V zss 0 (.slice none 0 0) where
  res := (Two.new w _ _).alloc _
  f := by have := Two.new (w.alloc (.cells #[.int .i64 0, .slice none 0 0] 26)) (.int .i64 V) (.slice none 0 0); simpa using this
  built := by simpa [fitL] using Built.nil _ _
  below := ((Below.refl _ _).alloc (Nat.le_refl _) _).alloc (by simp) _
  size := by simp
  rows := fun j z hj => by omega

theorem FitAt.len {w wr : World} {V : Int} {zss : List (List Int)} {k : Nat} {v : Value} (_ : FitAt w wr V zss k v) (hk : k ≤ zss.length) : (fitL V (zss.take k)).length = k := by rw [fitL_len]; simp; omega
theorem FitAt.next {w wo wr w1 : World} {V : Int} {zss : List (List Int)} {k : Nat} {v v' : Value} {vs : List Value} {a1 : Option Addr} {d1 : Nat} {zs : List Int} {o : Obj} (HF : FitAt w wo V zss k v) (HZ : zss[k]? = some zs) (h20 : zs.length ≤ 20)
    (HB : Below wo.heap.size wo wr) (hI : IntsR wr a1 (fitZ V zs)) (hp : ∀ p, a1 = some p → wo.heap.size ≤ p.block ∧ p.block < wr.heap.size) (hcc : (fitZ V zs).length ≤ d1 ∧ d1 ≤ maxLen)
    (h1 : wr.ownsRow (w.heap.size + 2) 23 1 v k vs) (h1o : v.ownBlock = none ∨ ∃ g, v.ownBlock = some g ∧ w.heap.size + 2 ≤ g ∧ g < wo.heap.size) (h2 : ∀ (j : Nat) (z : List Int), (fitL V (zss.take k))[j]? = some z → ∃ u : Value, vs[j]? = some u ∧ InRow wr (w.heap.size + 2) v u z)
    (hown : w1.ownsRow (w.heap.size + 2) 23 1 v' (k + 1) (vs ++ [.slice a1 (fitZ V zs).length d1])) (hg : (wr.alloc o).grownBy w1 v.ownBlock) (hat : v'.ownBlock = v.ownBlock ∨ v'.ownBlock = some (wr.alloc o).heap.size) :
    FitAt w (w1.setCell ⟨w.heap.size + 1, 1, none⟩ v') V zss (k + 1) v' ∧ Two w1 (w.heap.size + 1) (.int .i64 V) v := by
  have hk : k < zss.length := (List.getElem?_eq_some_iff.1 HZ).1
  have hlen := HF.len (by omega)
  have hs1 := HF.size
  have hs2 := HB.size
  have hne : ∀ j, j < w.heap.size + 2 → v.ownBlock ≠ some j := by
    intro j hj e
    rcases h1o with h | ⟨g, h, h3, _⟩
    · rw [h] at e; cases e
    · rw [h] at e; injection e with e; omega
  have hnp : ∀ p : Addr, a1 = some p → v.ownBlock ≠ some p.block := by
    intro p hp' e
    have := hp p hp'
    rcases h1o with h | ⟨g, h, _, h4⟩
    · rw [h] at e; cases e
    · rw [h] at e; injection e with e; omega
  have hT1 : Two w1 w.heap.size (.int .i64 0) (.slice none 0 0) := ((HF.res.below HB (by omega)).alloc o).grown hg (hne _ (by omega))
  have hT2 : Two w1 (w.heap.size + 1) (.int .i64 V) v := ((HF.f.below HB (by omega)).alloc o).grown hg (hne _ (by omega))
  have hbt : Built w1 (w.heap.size + 2) v' (fitL V (zss.take k) ++ [fitZ V zs]) :=
    Built.more (w := wr) (w0 := wr.alloc o) h2 (by rw [hlen]; exact h1) (boxed _ _) hg hat (by rw [hlen]; exact hown) hI (fun p e => ⟨by have := (hp p e).1; omega, (hp p e).2, hnp p e⟩) hcc
  have hB1 : Below w.heap.size w w1 := by
    refine (HF.below.trans (HB.mono (by omega))).trans ((boxed wr o).mono (by omega) |>.grown hg (by simp; omega) fun j e => ?_)
    rcases h1o with h | ⟨g, h, h3, _⟩
    · rw [h] at e; cases e
    · rw [h] at e; injection e with e; omega
  refine ⟨{ res := hT1.far (by simp) _, f := hT2.set1 v', built := ?_, below := hB1.setCell (p := ⟨w.heap.size + 1, 1, none⟩) (by simp) _, size := ?_, rows := HF.rows.succ HZ h20 }, hT2⟩
  · rw [fitL_snoc HZ]; exact hbt.setCell (p := ⟨w.heap.size + 1, 1, none⟩) (by simp) _
  · have := hg.size; simp at this ⊢; omega
theorem FitAt.split {w wo wr : World} {V : Int} {zss : List (List Int)} {k : Nat} {v : Value} (HF : FitAt w wo V zss k v) (hk : k ≤ zss.length) (HB : Below wo.heap.size wo wr) :
    ∃ vs : List Value, wr.ownsRow (w.heap.size + 2) 23 1 v k vs ∧ (v.ownBlock = none ∨ ∃ g, v.ownBlock = some g ∧ w.heap.size + 2 ≤ g ∧ g < wo.heap.size) ∧ ∀ (j : Nat) (z : List Int), (fitL V (zss.take k))[j]? = some z → ∃ u : Value, vs[j]? = some u ∧ InRow wr (w.heap.size + 2) v u z := by
  obtain ⟨vs, h1, h2⟩ := HF.built.below HB
  obtain ⟨us, h3, _⟩ := HF.built
  refine ⟨vs, by rw [HF.len hk] at h1; exact h1, ?_, h2⟩
  cases hv : v.ownBlock with
  | none => exact .inl rfl
  | some g => exact .inr ⟨g, rfl, World.ownsRow.lt h3 g hv⟩

set_option maxRecDepth 100000 in
set_option maxHeartbeats 4000000 in
theorem fit_any (n V : Int) (hn0 : 0 ≤ n) (hn1 : n ≤ 255) (hV : 1 + n % 12 = V) (a : Option Addr) (c : Nat) (zss : List (List Int)) (w : World) (hR : RowsR .i8 w a zss) (hA : AllLen zss) (hm : zss.length ≤ maxLen) (hwf : ∀ z ∈ zss, ∀ x ∈ z, (Lit.int .i8 x).wf = true) :
    Calls Try.prog 12 #[.int .u8 n, .slice a zss.length c] w (FitPost w V zss) := by
  unfold maxLen at hm
  have hV1 : 1 ≤ V := by omega
  have hV2 : V ≤ 12 := by omega
  have HW := Lib.hid hwf
  have HA := Lib.hid hA
  have HR := Lib.hid hR
  clear hwf hA hR
  by_cases hl : 30 < zss.length
  · have hF := Lib.hid (fitB_many hl)
    have hl' : (30 : Int) < (zss.length : Int) := by omega
    go_enter Try.func12, Try.ntmps12
    go_wp2
    refine bodyPost_ret (v := .tuple #[.agg #[.int .i64 0, .slice none 0 0], .bool false]) (by simp [results, Try.results12, go_sem]) rfl ?_
    exact .inl ⟨hF.out, rfl, ((Below.refl _ _).alloc (Nat.le_refl _) _).alloc (by simp) _⟩
  · have hl' : zss.length ≤ 30 := by omega
    clear hl
    obtain ⟨i0, hi, hz0, hz1, hz2⟩ := info_parts Try.info3
    obtain ⟨j0, hj, hy0, hy1, hy2⟩ := info_parts Try.info23
    go_enter Try.func12, Try.ntmps12
    go_wp2
    go_loopw [7] (fun i wr => ∃ (k : Nat) (v : Value), k ≤ zss.length ∧ i = .int .i64 k ∧ Hid (FitAt w wr V zss k v)) (fun i _ => zss.length - (intOf i).toNat)
    case atStart => exact ⟨0, _, Nat.zero_le _, rfl, FitAt.first w V zss⟩
    case round =>
      obtain ⟨k, v, hk, rfl, HF⟩ := hrel
      by_cases hlt : k < zss.length
      · obtain ⟨b, off, aj, cj, zs, rfl, hbs, HZ, hc, HK⟩ := (HR.out.below HF.out.below).at hlt
        have hzl := HA.out.at HZ.out
        unfold maxLen at hzl
        clear HA
        by_cases h20 : zs.length ≤ 20
        · obtain ⟨wo, rfl⟩ : ∃ wo : World, wo = wr := ⟨_, rfl⟩
          have HC := Lib.hid hc
          go_wp2
          clear hc
          go_loopw [8, 9] (fun cv i wr2 => ∃ m : Nat, i = .int .i64 m ∧ m ≤ zs.length ∧ Hid (Own wr2 wo.heap.size cv (fitZ V (zs.take m))) ∧ Hid (Below wo.heap.size wo wr2)) (fun _ i _ => zs.length - (intOf i).toNat)
          case atStart => exact ⟨0, rfl, Nat.zero_le _, Own.nil _ _, Below.refl _ _⟩
          case round =>
            obtain ⟨m, rfl, hm2, HO, HB⟩ := hrel
            have hc := (HB.out.cell (p := ⟨b, off + k, none⟩) hbs).trans HC.out
            have hF := HF.out.f.below HB.out (by have := HF.out.size; omega)
            have c0 := hF.c0
            have hsz := HB.out.size
            have hle := fitZ_le V (zs.take m)
            have hle2 : (zs.take m).length ≤ m := List.length_take_le _ _
            by_cases hml : m < zs.length
            · obtain ⟨b2, off2, x, rfl, HX, hcx⟩ := (HK.out.below HB.out).at hml
              have hx := i8_range (HW.out _ (List.mem_of_getElem? HZ.out) _ (List.mem_of_getElem? HX.out))
              have hx1 := hx.1
              have hx2 := hx.2
              have e1 : IntKind.i64.wrap x = x := IntWalk.i64_in _ (by omega)
              have e2 : IntKind.i64.wrap (V + 1) = V + 1 := IntWalk.i64_in _ (by omega)
              have hV3 : ((V + 1 : Int) == 0) = false := by simp; omega
              clear hx hF
              by_cases hv : x.tmod (V + 1) = 0
              · have hO : Hid (Own wr wo.heap.size u8 (fitZ V (zs.take (m + 1)))) := by unfold Hid; rw [fitZ_drop HX.out hv]; exact HO.out
                have e3 : (x.tmod (V + 1) != 0) = false := by simp [hv]
                have e4 : (x.tmod (V + 1) == 0) = true := by simp [hv]
                clear hv HO
                go_wp2
                go_quiet (fail)
                go_wp2
                go_roundw
                case rel => exact ⟨m + 1, by go_num, by omega, hO.out.quiet ⟨_, rfl⟩, HB.out.trans (quietBelow ⟨_, rfl⟩ _)⟩
                case measure => simp [intOf]; omega
              · have hO := fitZ_keep HX.out hv
                have HK2 := Lib.hid hO
                have e3 : (x.tmod (V + 1) != 0) = true := by simp [hv]
                have e4 : (x.tmod (V + 1) == 0) = false := by simp [hv]
                clear hv hO
                go_wp2
                go_quiet (fail)
                go_wp2_with (at_builtin; refine wpList_append_own _ rfl _ _ 23 rfl wo.heap.size 3 i0 (.int .i64 0) 1 8 Try.underlying23 hi hz0 hz1 hz2 rfl (by decide) _ _ _ rfl (World.ownsRow.alloc (HO.out.quiet ⟨_, rfl⟩) _) ⟨wr.heap.size, 0, none⟩ 1 1 [.int .i64 (x.tmod (V + 1))] rfl rfl (one_new (by simp)) one_int ?c3 ?c4 ?c5 ?_)
                case c3 => unfold maxLen; omega
                case c4 => omega
                case c5 => simp; omega
                intro v' w2 hown' hgrow _
                have R1 := Lib.hid (Own.of (zs := fitZ V (zs.take (m + 1))) hown' (by rw [HK2.out]; simp) (by rw [HK2.out]; simp))
                have R2 := Lib.hid (Own.below (HO.out.quiet ⟨_, rfl⟩) (HB.out.trans (quietBelow ⟨_, rfl⟩ _)) hsz hgrow)
                clear hown' hgrow HO HB
                go_wp2
                go_roundw
                case rel => exact ⟨m + 1, by go_num, by omega, R1, R2⟩
                case measure => simp [intOf]; omega
            · obtain rfl : m = zs.length := by omega
              have hO := HO.out
              rw [List.take_length] at hO
              obtain ⟨a1, d1, rfl, hI, hp, hcc⟩ := hO.parts
              obtain ⟨vs, h1, h1o, h2⟩ := HF.out.split hk HB.out
              have H1 := Lib.hid h1
              have HN := fun o v' w1 => Lib.hid (FitAt.next (w1 := w1) (v' := v') (d1 := d1) (o := o) HF.out HZ.out h20 HB.out hI hp hcc h1 h1o h2)
              have c1 := hF.c1
              clear hO hI hp h1 h1o h2 hF c0
              go_wp2_with (at_builtin; refine wpList_append_own_at _ rfl _ _ 24 rfl (w.heap.size + 2) 23 j0 (.slice none 0 0) 1 24 Try.underlying24 hj hy0 hy1 hy2 rfl (by decide) _ _ _ rfl (World.ownsRow.alloc H1.out _) ⟨wr.heap.size, 0, none⟩ 1 1 [.slice a1 (fitZ V zs).length d1] rfl rfl (one_new (by simp)) one_slice ?d3 ?d4 ?d5 ?_)
              case d3 => unfold maxLen; omega
              case d4 => omega
              case d5 => have := HF.out.size; simp; omega
              intro v' w1 hown' hgrow _ hat
              obtain ⟨g9, cap9, rfl⟩ := Go.Joins.ownsRow_form hown' (by omega)
              obtain ⟨hN, hT⟩ := (HN _ _ _).out hown' hgrow (by simpa using hat)
              have HN2 := Lib.hid hN
              have c2 := hT.c1
              have f2 := hT.free 1
              clear hown' hgrow hat hN hT HN c1 hc
              go_wp2
              go_roundw
              case rel => exact ⟨k + 1, _, by omega, by go_num, HN2⟩
              case measure => simp [intOf]; omega
        · have hF := Lib.hid (fitB_long HZ.out (by omega))
          have r0 := HF.out.res.c0
          have r1 := HF.out.res.c1
          have f0 := HF.out.res.free 0
          have f1 := HF.out.res.free 1
          have hT := (HF.out.res.set0 (.int .i64 0)).set1 (.slice none 0 0)
          have hB := Lib.hid ((HF.out.below.setCell (p := ⟨w.heap.size, 0, none⟩) (Nat.le_refl _) (.int .i64 0)).setCell (p := ⟨w.heap.size, 1, none⟩) (Nat.le_refl _) (.slice none 0 0))
          have s0 := hT.c0
          have s1 := hT.c1
          go_wp2
          refine bodyPost_ret (v := .tuple #[.agg #[.int .i64 0, .slice none 0 0], .bool false]) (by simp [results, Try.results12, go_sem, s0, s1]) rfl ?_
          exact .inl ⟨hF.out, rfl, hB.out⟩
      · obtain rfl : k = zss.length := by omega
        have hF := Lib.hid (fitB_yes hl' HF.out.rows)
        have hbt := HF.out.built
        rw [List.take_length] at hbt
        obtain ⟨a2, c2, rfl, hcap, hnil, _, hr2⟩ := hbt.rows
        rw [fitL_len] at HF hcap hnil
        have r0 := HF.out.res.c0
        have r1 := HF.out.res.c1
        have f0 := HF.out.res.free 0
        have f1 := HF.out.res.free 1
        have g0 := HF.out.f.c0
        have g1 := HF.out.f.c1
        have hT := (HF.out.res.set0 (.int .i64 V)).set1 (.slice a2 zss.length c2)
        have hB := Lib.hid ((HF.out.below.setCell (p := ⟨w.heap.size, 0, none⟩) (Nat.le_refl _) (.int .i64 V)).setCell (p := ⟨w.heap.size, 1, none⟩) (Nat.le_refl _) (.slice a2 zss.length c2))
        have s0 := hT.c0
        have s1 := hT.c1
        have hb2 := (hbt.setCell (p := ⟨w.heap.size, 0, none⟩) (by simp) (.int .i64 V)).setCell (p := ⟨w.heap.size, 1, none⟩) (by simp) (.slice a2 zss.length c2)
        obtain ⟨a3, c3, hv3, _, _, _, hr3⟩ := hb2.rows
        rw [fitL_len] at hv3
        injection hv3 with e1 _ e3
        subst e1 e3
        have HR3 := Lib.hid hr3
        have HCN := Lib.hid (And.intro hcap hnil)
        clear hT hbt hb2 hr2 hr3 hcap hnil
        go_wp2
        refine bodyPost_ret (v := .tuple #[.agg #[.int .i64 V, .slice a2 zss.length c2], .bool true]) (by simp [results, Try.results12, go_sem, s0, s1]) rfl ?_
        exact .inr ⟨hF.out, _, _, rfl, HCN.out.1, HCN.out.2, HR3.out, hB.out⟩
theorem Try.info4 : (Try.prog.info? 4).map (fun i => (i.zero, i.size, i.bytes)) = some (some (.bool false), 1, 1) := by kernel_rfl
/-- A row of bools that the call made itself. -/
def MRow (w : World) (B g : Nat) (bs : List Bool) : Prop := w.ownsRow B 4 1 (.slice (some ⟨g, 0, none⟩) bs.length bs.length) bs.length (bs.map Value.bool)
theorem MRow.reads {w : World} {B g : Nat} {bs : List Bool} (h : MRow w B g bs) : BoolsR w (some ⟨g, 0, none⟩) bs := by
  by_cases h0 : bs.length = 0
  · exact .inl h0
  refine .inr ⟨g, 0, rfl, (h.lt g rfl).2, fun j hj => ?_⟩
  rw [Nat.zero_add, World.ownsRow.cellAt h j (by omega), List.getElem?_map, getD_some _ false j hj]; rfl
theorem MRow.put {w : World} {B g : Nat} {bs : List Bool} (h : MRow w B g bs) (k : Nat) (b : Bool) : MRow (w.setCell ⟨g, k, none⟩ (.bool b)) B g (bs.set k b) := by
  unfold MRow at *
  rw [List.length_set, List.map_set]
  exact (World.ownsRow.stored h k _).1
theorem MRow.there {w : World} {B g : Nat} {bs : List Bool} (h : MRow w B g bs) {k : Nat} (hk : k < bs.length) : ∃ b, w.cell? ⟨g, k, none⟩ = some (.bool b) :=
  ⟨bs[k], by rw [World.ownsRow.cellAt h k (by omega), List.getElem?_map]; simp [hk]⟩
theorem MRow.below {w w' : World} {B g : Nat} {bs : List Bool} (h : MRow w B g bs) (hb : Below w.heap.size w w') : MRow w' B g bs := ownsRow_stays h fun k _ hk => hb.block k hk
theorem u16_range {z : Int} (h : (Lit.int .u16 z).wf = true) : 0 ≤ z ∧ z ≤ 65535 := by
  unfold Lit.wf at h
  rw [Bool.and_eq_true, decide_eq_true_eq, decide_eq_true_eq] at h
  exact h

set_option maxRecDepth 100000 in
set_option maxHeartbeats 4000000 in
theorem model_any (N : Nat) (hN : N ≤ 4096) (bits : Int) (w : World) (_ : 0 ≤ bits) (_ : bits ≤ 65535) :
    Calls Try.prog 24 #[.int .i64 N, .int .u16 bits] w fun e w' => ∃ bs g, bs.length = N ∧ e = .returned (.slice (some ⟨g, 0, none⟩) N N) ∧ MRow w' w.heap.size g bs ∧ Below w.heap.size w w' := by
  obtain ⟨j0, hj, hy0, hy1, hy2⟩ := info_parts Try.info4
  go_enter Try.func24, Try.ntmps24
  go_wp2_with (at_make; refine wpList_make_full _ rfl _ _ 46 rfl w.heap.size 4 j0 (.bool false) 1 Try.underlying46 hj hy0 hy1 .i64 .i64 _ _ N rfl rfl rfl rfl (by rw [hy2]; omega) (by unfold maxLen; omega) (Nat.le_refl _) ?_; intro w1 hown0 hgrow0)
  have hO : Hid (MRow w1 w.heap.size w.heap.size (List.replicate N false)) := by
    unfold Hid MRow
    have e : (madeCells (Value.bool false).cells (N * 1)).toList = (List.replicate N false).map Value.bool := by rw [Nat.mul_one]; exact (toList_madeCells_one (Value.bool false) N).trans (by simp)
    rw [e] at hown0
    simpa using hown0
  have hB : Hid (Below w.heap.size w w1) := (Below.refl _ _).grown hgrow0 (Nat.le_refl _) (fun k hk => by cases hk)
  clear hown0 hgrow0
  go_wp2
  go_loopw [6] (fun i wr => ∃ (k : Nat) (bs : List Bool), i = .int .i64 k ∧ k ≤ N ∧ Hid (bs.length = N) ∧ Hid (MRow wr w.heap.size w.heap.size bs) ∧ Hid (Below w.heap.size w wr)) (fun i _ => N - (intOf i).toNat)
  case atStart => exact ⟨0, List.replicate N false, rfl, by omega, by unfold Hid; simp, hO, hB⟩
  case round =>
    clear hO hB
    obtain ⟨k, bs, rfl, hk, HL, HO, HB⟩ := hrel
    by_cases hlt : k < N
    · have hfr : wr.frozen? ⟨w.heap.size, k, none⟩ = false := World.ownsRow.frozenAt HO.out k
      obtain ⟨b0, hc0⟩ := HO.out.there (k := k) (by rw [HL.out]; exact hlt)
      have hP := Lib.hid (fun b => HO.out.put k b)
      have hQ := Lib.hid (fun b => HB.out.setCell (p := ⟨w.heap.size, k, none⟩) (Nat.le_refl _) (.bool b))
      have hL : Hid (∀ b, (bs.set k b).length = N) := fun b => by rw [List.length_set]; exact HL.out
      clear HO HB HL
      go_wp2
      go_roundw
      case rel => exact ⟨k + 1, _, by go_num, by omega, hL.out _, hP.out _, hQ.out _⟩
      case measure => simp [intOf]; omega
    · go_wp2
      go_ret
      exact ⟨bs, _, HL.out, rfl, HO.out, HB.out⟩

/-! Formulas that Fit makes are valid. -/
theorem fitZ_check {V : Int} (h1 : 1 ≤ V) (h2 : V ≤ 12) {W : Int} (h3 : V ≤ W) (h4 : W ≤ 1048576) {z : List Int} (hz : z.length ≤ 20) : checkI W (fitZ V z) = 0 := by
  refine checkI_ok _ _ (by omega) (by omega) (by have := fitZ_le V z; omega) ?_
  rw [List.any_eq_false]
  intro x hx
  obtain ⟨a1, a2, a3⟩ := fitZ_range V h1 z x hx
  have ha := au_abs x (by omega) (by omega)
  unfold badB
  simp only [Bool.or_eq_true, beq_iff_eq, decide_eq_true_eq, not_or]
  refine ⟨a3, ?_⟩
  rw [ha]; split <;> omega
theorem errs_zero {W : Int} {L : List (List Int)} (h : ∀ z ∈ L, checkI W z = 0) : errs W L = 0 := errs_none fun _ z _ hz => h z (List.mem_of_getElem? hz)
theorem fitL_check {V : Int} (h1 : 1 ≤ V) (h2 : V ≤ 12) {W : Int} (h3 : V ≤ W) (h4 : W ≤ 1048576) {zss : List (List Int)} (hb : fitB zss = true) : checkF W (fitL V zss) = 0 := by
  obtain ⟨hl, hr⟩ := fitB_parts hb
  rw [checkF_in (by omega) (by rw [fitL_len]; omega)]
  refine errs_zero fun z hz => ?_
  obtain ⟨y, hy, rfl⟩ := List.mem_map.1 hz
  exact fitZ_check h1 h2 h3 h4 (hr y hy)
theorem fitL_all {V : Int} {zss : List (List Int)} (hb : fitB zss = true) : AllLen (fitL V zss) := by
  intro z hz
  obtain ⟨y, hy, rfl⟩ := List.mem_map.1 hz
  have h1 := fitZ_le V y
  have h2 := (fitB_parts hb).2 y hy
  unfold maxLen; omega
theorem firstI_spec (m : List Bool) (L : List (List Int)) : (firstI m L = -1 ∧ ∀ (j : Nat) (z : List Int), L[j]? = some z → z.any (holdsL m) = true) ∨
    (∃ t : Nat, firstI m L = t ∧ t < L.length ∧ (∀ (j : Nat) (z : List Int), j < t → L[j]? = some z → z.any (holdsL m) = true) ∧ ∀ z : List Int, L[t]? = some z → z.any (holdsL m) = false) := by
  unfold firstI
  cases h : L.findIdx? (fun z => !z.any (holdsL m)) with
  | none =>
    rw [List.findIdx?_eq_none_iff] at h
    refine .inl ⟨rfl, fun j z hz => ?_⟩
    have := h z (List.mem_of_getElem? hz)
    simpa using this
  | some t =>
    rw [List.findIdx?_eq_some_iff_getElem] at h
    obtain ⟨ht, h1, h2⟩ := h
    refine .inr ⟨t, rfl, ht, fun j z hj hz => ?_, fun z hz => ?_⟩
    · obtain ⟨hjl, rfl⟩ := List.getElem?_eq_some_iff.1 hz
      have := h2 j hj
      simpa using this
    · obtain ⟨_, rfl⟩ := List.getElem?_eq_some_iff.1 hz
      simpa using h1
theorem any_ne {m : List Bool} {z : List Int} (h : z.any (holdsL m) = true) : ((z.length : Int) == 0) = false := by
  cases z with
  | nil => simp at h
  | cons x y => simp; omega
theorem fitL_take (V : Int) (zss : List (List Int)) (k : Nat) : fitL V (zss.take k) = (fitL V zss).take k := by unfold fitL; rw [List.map_take]
theorem fitB_take {zss : List (List Int)} (h : fitB zss = true) (k : Nat) : fitB (zss.take k) = true := by
  obtain ⟨h1, h2⟩ := fitB_parts h
  refine fitB_yes (by simp; omega) fun j z _ hz => ?_
  exact h2 z (List.mem_of_mem_take (List.mem_of_getElem? hz))
theorem RowsR.take {kd : IntKind} {w : World} {a : Option Addr} {zss : List (List Int)} (h : RowsR kd w a zss) (k : Nat) : RowsR kd w a (zss.take k) := by
  rcases h with h | ⟨b, off, ha, hs, hc⟩
  · left; rw [List.length_take]; omega
  · refine .inr ⟨b, off, ha, hs, fun j hj => ?_⟩
    have hj1 : j < zss.length := by simp at hj; omega
    have hj2 : j < k := by simp at hj; omega
    have := hc j hj1
    rw [show (zss.take k).getD j [] = zss.getD j [] by simp [List.getD, hj2]]
    exact this
end Go.Proofs.Ytbljkbdbiceokaa
