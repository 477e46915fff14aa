/-
  Format: contracts of the program's functions that write a formula's text.
-/
import Derived.Test.YtkannkalbhmlcaaDoorDimF
import Derived.Test.YtkannkalbhmlcaaDoorCnfC
import Derived.Lib.AppendStr
import Derived.Lib.BufSteps
import Derived.Lib.ItoaLen
import Derived.Lib.OthersKept
import Derived.Laws.IdiomStrings
namespace Go.Proofs.YtkannkalbhmlcaaDoor
open Go.RowKit Go.Lib
open Go.RowKit (Below)

theorem Tryd.info5 : (Tryd.prog.info? 5).map (fun i => (i.zero, i.size, i.bytes)) = some (some (.int .u8 0), 1, 1) := by kernel_rfl
/-- A text that a call owns, in blocks from B on. -/
def Txt (w : World) (B : Nat) (v : Value) (l : List UInt8) : Prop := w.ownsRow B 5 1 v l.length (byteCells l)
theorem Txt.of {w : World} {B n : Nat} {v : Value} {xs : List Value} {l : List UInt8} (h : w.ownsRow B 5 1 v n xs) (hn : n = l.length) (hx : xs = byteCells l) : Txt w B v l := by subst hn hx; exact h
theorem Txt.nil (w : World) (B : Nat) : Txt w B (.slice none 0 0) [] := World.ownsRow_nil _ _ _ _
/-- What such a call leaves alone. -/
def TxtFrame (B : Nat) (w w' : World) : Prop := Below B w w' ∧ OthersKept 5 none w w'
theorem TxtFrame.refl (B : Nat) (w : World) : TxtFrame B w w := ⟨Below.refl _ _, OthersKept.refl _ _ _⟩
theorem TxtFrame.trans {B : Nat} {a b c : World} (h : TxtFrame B a b) (k : TxtFrame B b c) : TxtFrame B a c := ⟨h.1.trans k.1, h.2.trans k.2⟩
theorem Txt.grown {w w0 w' : World} {B : Nat} {v : Value} {l : List UInt8} (h : Txt w B v l) (hB : B ≤ w.heap.size) (h0 : Below w.heap.size w w0) (hg : w0.grownBy w' v.ownBlock) : TxtFrame B w w' := by
  have ho : OthersKept 5 none w w0 := fun k o hk _ _ => (h0.block k (Array.getElem?_eq_some_iff.1 hk).1).trans hk
  refine ⟨(h0.mono hB).grown hg (Nat.le_trans hB h0.size) (fun k hk => (World.ownsRow.lt h k hk).1), ho.grown hg fun g hg' => ?_⟩
  obtain ⟨c, fz, hh⟩ := own_tag h hg'
  exact ⟨c, fz, (h0.block g (Array.getElem?_eq_some_iff.1 hh).1).trans hh⟩
theorem OthersKept.cell {w w' : World} {b i : Nat} {cur : Array Value} {t : TypeId} {x : Value} (h : OthersKept 5 none w w') (ht : t ≠ 5) (hb : w.heap[b]? = some (.cells cur t (0, 0))) (hx : cur[i]? = some x) : w'.cell? ⟨b, i, none⟩ = some x :=
  heap_cell (h b _ hb (by simp) (fun c fz e => by cases e; exact ht rfl)) hx

def litsT (z : List Int) : List UInt8 := z.flatMap fun x => itoa x ++ [32]
theorem litsT_snoc {z : List Int} {k : Nat} {x : Int} (h : z[k]? = some x) : litsT (z.take (k + 1)) = litsT (z.take k) ++ itoa x ++ [32] := by
  unfold litsT; rw [take_snoc _ _ _ h]; simp
theorem litsT_all (z : List Int) {k : Nat} (h : ¬ k < z.length) : litsT (z.take k) = litsT z := by rw [List.take_of_length_le (by omega)]
theorem clauseT_eq (z : List Int) : clauseT z = litsT z ++ [48, 10] := rfl
def I64 (x : Int) : Prop := -9223372036854775808 ≤ x ∧ x ≤ 9223372036854775807
theorem litsT_le : ∀ (z : List Int), (∀ x ∈ z, I64 x) → (litsT z).length ≤ 22 * z.length
  | [], _ => by simp [litsT]
  | x :: t, h => by
    have h1 := litsT_le t (fun y hy => h y (by simp [hy]))
    have h2 := itoa_length_le x (h x (by simp)).1 (h x (by simp)).2
    unfold litsT at *
    simp only [List.flatMap_cons, List.length_append, List.length_cons, List.length_nil] at *
    omega

set_option maxRecDepth 100000 in
set_option maxHeartbeats 4000000 in
theorem clause_any (B : Nat) (w0 w : World) (hB : w0.heap.size = B) (hb : Below B w0 w) (he : Env w0) (v : Value) (l : List UInt8) (hT : Txt w B v l) (hl : l.length ≤ 1000000) (a : Option Addr) (c : Nat) (zs : List Int) (hz : zs.length ≤ 4096) (hw : ∀ x ∈ zs, I64 x) (hR : IntsR w0 a zs) :
    Calls Tryd.prog 23 #[v, .slice a zs.length c] w fun e w' => ∃ v', e = .returned v' ∧ Txt w' B v' (l ++ clauseT zs) ∧ TxtFrame B w w' := by
  subst hB
  have HT := Lib.hid hT
  have HW := Lib.hid hw
  have HR := Lib.hid hR
  have HE := Lib.hid he
  have HB := Lib.hid hb
  clear hT hw hR he hb
  obtain ⟨i0, hi, hz0, hz1, hz2⟩ := info_parts Tryd.info5
  go_enter Tryd.func23, Tryd.ntmps23
  go_wp2
  go_loopw [0, 9] (fun t i wr => ∃ (k : Nat), i = .int .i64 k ∧ k ≤ zs.length ∧ Hid (Txt wr w0.heap.size t (l ++ litsT (zs.take k))) ∧ Hid (TxtFrame w0.heap.size w wr)) (fun _ i _ => zs.length - (intOf i).toNat)
  case atStart => exact ⟨0, rfl, Nat.zero_le _, by simpa [litsT, Hid] using HT.out, TxtFrame.refl _ _⟩
  case round =>
    obtain ⟨k, rfl, hk, HTk, HF⟩ := hrel
    have hll := litsT_le (zs.take k) (fun x hx => HW.out x (List.mem_of_mem_take hx))
    have htk : (zs.take k).length ≤ k := List.length_take_le _ _
    have hlen : (l ++ litsT (zs.take k)).length ≤ 1100000 := by rw [List.length_append]; omega
    have hsz : w0.heap.size ≤ wr.heap.size := Nat.le_trans HB.out.size HF.out.1.size
    by_cases hlt : k < zs.length
    · obtain ⟨b, off, x, rfl, hx, hc⟩ := (HR.out.below (HB.out.trans HF.out.1)).at hlt
      have hxr := HW.out x (List.mem_of_getElem? hx.out)
      have HTB := Lib.hid ((HE.out.tabBelow).on (HB.out.trans HF.out.1))
      have HA := Lib.hid (Tryd.strconv_AppendInt_10 w0.heap.size _ x hxr.1 hxr.2 _ _ wr HTk.out hsz (by omega) HTB.out)
      have hil := itoa_length_le x hxr.1 hxr.2
      have HLT : Hid (litsT (zs.take (k + 1)) = litsT (zs.take k) ++ itoa x ++ [32]) := litsT_snoc hx.out
      clear hll htk hxr
      go_wp2_with (go_at_call 37; refine HA.out.mono ?_; rintro e w1 ⟨v1, rfl, hown1, hnx1, hot1⟩; refine Hid.out ?_)
      refine Lib.hid ?_
      have HO1 : Hid (Txt w1 w0.heap.size v1 (l ++ litsT (zs.take k) ++ itoa x)) := Txt.of hown1 (by simp only [List.length_append]) (by simp [byteCells])
      have HF1 := Lib.hid (HF.out.trans ⟨hnx1, hot1⟩)
      have hs1 : w0.heap.size ≤ w1.heap.size := Nat.le_trans hsz hnx1.size
      have hlen1 : (l ++ litsT (zs.take k) ++ itoa x).length ≤ 1100021 := by rw [List.length_append]; omega
      clear hown1 hnx1 hot1 hc
      go_wp2_with (at_builtin; refine wpList_append_own _ rfl _ _ 37 rfl w0.heap.size 5 i0 (.int .u8 0) 1 1 Tryd.underlying37 hi hz0 hz1 hz2 rfl (by decide) _ _ _ rfl (World.ownsRow.alloc HO1.out _) ⟨w1.heap.size, 0, none⟩ 1 1 [.int .u8 32] rfl rfl (one_new rfl) one_int ?c3 ?c4 ?c5 ?_)
      case c3 => unfold maxLen; omega
      case c4 => omega
      case c5 => simp; omega
      intro v2 w2 hown2 hgrow _
      have H1 : Hid (Txt w2 w0.heap.size v2 (l ++ litsT (zs.take (k + 1)))) := Txt.of hown2 (by rw [HLT.out]; simp only [List.length_append, List.length_cons, List.length_nil]; omega) (by rw [HLT.out]; simp [byteCells])
      have H2 := Lib.hid (HF1.out.trans (HO1.out.grown hs1 (boxed _ _) hgrow))
      clear hown2 hgrow
      go_wp2
      go_roundw
      case rel => exact ⟨k + 1, by go_num, by omega, H1, H2⟩
      case measure => simp [intOf]; omega
    · have HLL : Hid (l ++ clauseT zs = l ++ litsT (zs.take k) ++ [48, 10]) := by unfold Hid; rw [litsT_all zs hlt, clauseT_eq, List.append_assoc]
      clear hll htk
      go_wp2_with (at_builtin; refine Go.Lib.wpList_append_own_string _ rfl _ _ 37 9 rfl w0.heap.size 5 i0 Tryd.underlying37 Tryd.underlying9 hi hz0 hz1 hz2 _ _ _ rfl HTk.out ⟨#[48, 10]⟩ rfl ?e3 ?e4 hsz ?_)
      case e3 => unfold maxLen; show _ + 2 ≤ _; omega
      case e4 => show _ + 2 ≤ _; omega
      intro v2 w2 hown2 hgrow _
      have H1 : Hid (Txt w2 w0.heap.size v2 (l ++ clauseT zs)) := Txt.of hown2 (by rw [HLL.out]; simp; omega) (by rw [HLL.out]; simp [byteCells, strCells])
      have H2 := Lib.hid (HF.out.trans (HTk.out.grown hsz (Below.refl _ _) hgrow))
      clear hown2 hgrow
      go_wp2
      go_ret
      exact ⟨_, rfl, H1.out, H2.out⟩

set_option maxRecDepth 100000 in
set_option maxHeartbeats 4000000 in
theorem head_any (B : Nat) (w0 w : World) (hB : w0.heap.size = B) (hb : Below B w0 w) (he : Env w0) (V : Int) (hV : I64 V) (a : Option Addr) (n c : Nat) (hn : n ≤ 1048576) :
    Calls Tryd.prog 22 #[.slice none 0 0, .agg #[.int .i64 V, .slice a n c]] w fun e w' => ∃ v', e = .returned v' ∧ Txt w' B v' (headT V n) ∧ TxtFrame B w w' := by
  subst hB
  have HE := Lib.hid he
  have HB := Lib.hid hb
  have hsz := hb.size
  have hV1 := hV.1
  have hV2 := hV.2
  have hil := itoa_length_le V hV.1 hV.2
  have hil2 := itoa_length_le (n : Int) (by omega) (by omega)
  obtain ⟨w1, hw1⟩ : ∃ w1, w.alloc (.cells #[.int .i64 V, .slice a n c] 24) = w1 := ⟨_, rfl⟩
  have hbx : w1.heap[w.heap.size]? = some (.cells #[.int .i64 V, .slice a n c] 24 (0, 0)) := by rw [← hw1]; exact heap_alloc_new _ _
  have hf1 : TxtFrame w0.heap.size w w1 := by
    rw [← hw1]; exact ⟨(boxed w _).mono hsz, (OthersKept.refl _ _ _).alloc _⟩
  have hs1 : w0.heap.size ≤ w1.heap.size := Nat.le_trans hsz hf1.1.size
  have HW1 := Lib.hid hw1
  have HX := Lib.hid hbx
  have HF1 := Lib.hid hf1
  clear hV hw1 hbx hf1 he hb
  obtain ⟨i0, hi, hz0, hz1, hz2⟩ := info_parts Tryd.info5
  go_enter Tryd.func22, Tryd.ntmps22
  go_wp2_with (at_builtin; rw [HW1.out]; refine Go.Lib.wpList_append_own_string _ rfl _ _ 37 9 rfl w0.heap.size 5 i0 Tryd.underlying37 Tryd.underlying9 hi hz0 hz1 hz2 _ _ _ rfl (Txt.nil w1 w0.heap.size) ⟨#[112, 32, 99, 110, 102, 32]⟩ rfl ?e3 ?e4 hs1 ?_)
  case e3 => unfold maxLen; show 0 + 6 ≤ _; omega
  case e4 => show 0 + 6 ≤ _; omega
  intro v2 w2 hown2 hgrow _
  have H2 : Hid (Txt w2 w0.heap.size v2 [112, 32, 99, 110, 102, 32]) := Txt.of hown2 rfl rfl
  have HF2 := Lib.hid (HF1.out.trans ((Txt.nil w1 w0.heap.size).grown hs1 (Below.refl _ _) hgrow))
  have k0 : w2.cell? ⟨w.heap.size, 0, none⟩ = some (.int .i64 V) := OthersKept.cell (i := 0) ((Txt.nil w1 w0.heap.size).grown hs1 (Below.refl _ _) hgrow).2 (by decide) HX.out rfl
  have HO2 := Lib.hid ((Txt.nil w1 w0.heap.size).grown hs1 (Below.refl _ _) hgrow).2
  have hs2 : w0.heap.size ≤ w2.heap.size := Nat.le_trans hs1 hgrow.size
  have HA := Lib.hid (Tryd.strconv_AppendInt_10 w0.heap.size _ V hV1 hV2 _ _ w2 H2.out hs2 (by show 6 + 21 ≤ _; omega) ((HE.out.tabBelow).on (HB.out.trans HF2.out.1)))
  clear hown2 hgrow
  go_wp2_with (go_at_call 37; refine HA.out.mono ?_; rintro e w3 ⟨v3, rfl, hown3, hnx3, hot3⟩; refine Hid.out ?_)
  refine Lib.hid ?_
  have H3 : Hid (Txt w3 w0.heap.size v3 ([112, 32, 99, 110, 102, 32] ++ itoa V)) := Txt.of hown3 (by simp only [List.length_append]) (by simp [byteCells])
  have HF3 := Lib.hid (HF2.out.trans ⟨hnx3, hot3⟩)
  have HO3 := Lib.hid (HO2.out.trans hot3)
  have hs3 : w0.heap.size ≤ w3.heap.size := Nat.le_trans hs2 hnx3.size
  have hl3 : ([112, 32, 99, 110, 102, 32] ++ itoa V).length ≤ 27 := by rw [List.length_append]; show 6 + _ ≤ 27; omega
  clear hown3 hnx3 hot3 k0
  go_wp2_with (at_builtin; refine wpList_append_own _ rfl _ _ 37 rfl w0.heap.size 5 i0 (.int .u8 0) 1 1 Tryd.underlying37 hi hz0 hz1 hz2 rfl (by decide) _ _ _ rfl (World.ownsRow.alloc H3.out _) ⟨w3.heap.size, 0, none⟩ 1 1 [.int .u8 32] rfl rfl (one_new rfl) one_int ?c3 ?c4 ?c5 ?_)
  case c3 => unfold maxLen; omega
  case c4 => omega
  case c5 => simp; omega
  intro v4 w4 hown4 hgrow _
  have H4 : Hid (Txt w4 w0.heap.size v4 ([112, 32, 99, 110, 102, 32] ++ itoa V ++ [32])) := Txt.of hown4 (by simp only [List.length_append, List.length_cons, List.length_nil]; omega) (by simp [byteCells])
  have hfr := H3.out.grown hs3 (boxed _ _) hgrow
  have HF4 := Lib.hid (HF3.out.trans hfr)
  have k1 : w4.cell? ⟨w.heap.size, 1, none⟩ = some (.slice a n c) := OthersKept.cell (i := 1) (HO3.out.trans hfr.2) (by decide) HX.out rfl
  have hs4 : w0.heap.size ≤ w4.heap.size := Nat.le_trans hs3 hfr.1.size
  have HA2 := Lib.hid (Tryd.strconv_AppendInt_10 w0.heap.size _ (n : Int) (by omega) (by omega) _ _ w4 H4.out hs4 (by rw [List.length_append]; show _ + 1 + 21 ≤ _; omega) ((HE.out.tabBelow).on (HB.out.trans HF4.out.1)))
  clear hown4 hgrow hfr
  go_wp2_with (go_at_call 37; refine HA2.out.mono ?_; rintro e w5 ⟨v5, rfl, hown5, hnx5, hot5⟩; refine Hid.out ?_)
  refine Lib.hid ?_
  have H5 : Hid (Txt w5 w0.heap.size v5 ([112, 32, 99, 110, 102, 32] ++ itoa V ++ [32] ++ itoa n)) := Txt.of hown5 (by simp only [List.length_append]) (by simp [byteCells])
  have HF5 := Lib.hid (HF4.out.trans ⟨hnx5, hot5⟩)
  have hs5 : w0.heap.size ≤ w5.heap.size := Nat.le_trans hs4 hnx5.size
  have hl5 : ([112, 32, 99, 110, 102, 32] ++ itoa V ++ [32] ++ itoa n).length ≤ 49 := by rw [List.length_append, List.length_append]; show _ + 1 + _ ≤ 49; omega
  clear hown5 hnx5 hot5 k1
  go_wp2_with (at_builtin; refine wpList_append_own _ rfl _ _ 37 rfl w0.heap.size 5 i0 (.int .u8 0) 1 1 Tryd.underlying37 hi hz0 hz1 hz2 rfl (by decide) _ _ _ rfl (World.ownsRow.alloc H5.out _) ⟨w5.heap.size, 0, none⟩ 1 1 [.int .u8 10] rfl rfl (one_new rfl) one_int ?d3 ?d4 ?d5 ?_)
  case d3 => unfold maxLen; omega
  case d4 => omega
  case d5 => simp; omega
  intro v6 w6 hown6 hgrow _
  have H6 : Hid (Txt w6 w0.heap.size v6 (headT V n)) := Txt.of hown6 (by unfold headT; simp only [List.length_append, List.length_cons, List.length_nil]; omega) (by unfold headT; simp [byteCells])
  have HF6 := Lib.hid (HF5.out.trans (H5.out.grown hs5 (boxed _ _) hgrow))
  clear hown6 hgrow
  go_wp2
  go_ret
  exact ⟨_, rfl, H6.out, HF6.out⟩

def fmtE (V : Int) (zss : List (List Int)) : Int := if checkF V zss = 0 then (if 65536 < (formT V zss).length then 5 else 0) else checkF V zss
def fmtS (V : Int) (zss : List (List Int)) : List UInt8 := if checkF V zss = 0 ∧ ¬ 65536 < (formT V zss).length then formT V zss else []
theorem fmt_bad {V r : Int} {zss : List (List Int)} (h : checkF V zss = r) (hr : r ≠ 0) : fmtE V zss = r ∧ fmtS V zss = [] := by
  unfold fmtE fmtS; rw [h, if_neg hr, if_neg (fun e => hr e.1)]; exact ⟨rfl, rfl⟩
theorem fmt_long {V : Int} {zss : List (List Int)} (h : checkF V zss = 0) (hl : 65536 < (formT V zss).length) : fmtE V zss = 5 ∧ fmtS V zss = [] := by
  unfold fmtE fmtS; rw [if_pos h, if_pos hl, if_neg (fun e => e.2 hl)]; exact ⟨rfl, rfl⟩
theorem fmt_ok {V : Int} {zss : List (List Int)} (h : checkF V zss = 0) (hl : ¬ 65536 < (formT V zss).length) : fmtE V zss = 0 ∧ fmtS V zss = formT V zss := by
  unfold fmtE fmtS; rw [if_pos h, if_neg hl, if_pos ⟨h, hl⟩]; exact ⟨rfl, rfl⟩
/-- A formula that Check lets by. -/
theorem checkI_fits {n : Int} {z : List Int} (h : checkI n z = 0) : z.length ≤ 4096 := by
  unfold checkI at h; split at h
  · simp at h
  · split at h
    · simp at h
    · omega
theorem checkF_fits {V : Int} {zss : List (List Int)} (h : checkF V zss = 0) : (0 ≤ V ∧ V ≤ 1048576) ∧ zss.length ≤ 1048576 ∧ ∀ z ∈ zss, z.length ≤ 4096 := by
  unfold checkF at h
  split at h
  · simp at h
  · split at h
    · simp at h
    · refine ⟨by omega, by omega, fun z hz => ?_⟩
      unfold errs at h
      cases hf : zss.find? (fun z => checkI V z != 0) with
      | none =>
        rw [List.find?_eq_none] at hf
        have := hf z hz
        simp at this
        exact checkI_fits this
      | some y =>
        rw [hf] at h
        have := List.find?_some hf
        simp at this
        exact absurd h this
def preT (V : Int) (zss : List (List Int)) (k : Nat) : List UInt8 := headT V zss.length ++ (zss.take k).flatMap clauseT
theorem preT_next {V : Int} {zss : List (List Int)} {k : Nat} {z : List Int} (h : zss[k]? = some z) : preT V zss (k + 1) = preT V zss k ++ clauseT z := by
  unfold preT; rw [take_snoc _ _ _ h]; simp
theorem preT_le (V : Int) (zss : List (List Int)) (k : Nat) : (preT V zss k).length ≤ (formT V zss).length := by
  unfold preT formT
  rw [List.length_append, List.length_append]
  have : ((zss.take k).flatMap clauseT).length ≤ (zss.flatMap clauseT).length := by
    have e := List.take_append_drop k zss
    conv => rhs; rw [← e]
    rw [List.flatMap_append, List.length_append]; omega
  omega
theorem preT_all {V : Int} {zss : List (List Int)} {k : Nat} (h : ¬ k < zss.length) : preT V zss k = formT V zss := by
  unfold preT formT; rw [List.take_of_length_le (by omega)]
theorem headT_le {V : Int} {n : Nat} (h1 : I64 V) (h2 : n ≤ 1048576) : (headT V n).length ≤ 50 ∧ 0 < (headT V n).length := by
  have hil := itoa_length_le V h1.1 h1.2
  have hil2 := itoa_length_le (n : Int) (by omega) (by omega)
  unfold headT
  simp only [List.length_append, List.length_cons, List.length_nil]; omega

def FmtPost (w : World) (V : Int) (zss : List (List Int)) (e : Ending) (w' : World) : Prop :=
  e = .returned (.tuple #[.string ⟨(fmtS V zss).toArray⟩, .int .i64 (fmtE V zss)]) ∧ Below w.heap.size w w'
theorem fmtPost_of {w w' : World} {V E : Int} {zss : List (List Int)} {S : List UInt8} (h1 : fmtE V zss = E) (h2 : fmtS V zss = S) (hb : Below w.heap.size w w') : FmtPost w V zss (.returned (.tuple #[.string ⟨S.toArray⟩, .int .i64 E])) w' := by
  unfold FmtPost; rw [h1, h2]; exact ⟨rfl, hb⟩
theorem Txt.cells {w : World} {B : Nat} {v : Value} {l : List UInt8} (h : Txt w B v l) (h0 : 0 < l.length) : ∃ g cap, v = .slice (some ⟨g, 0, none⟩) l.length cap ∧ ∀ j (hj : j < l.length), w.cell? ((⟨g, 0, none⟩ : Addr).add j) = some (.int .u8 (l[j].toNat : Int)) := by
  obtain ⟨g, cap, rfl⟩ := Go.Joins.ownsRow_form h h0
  exact ⟨g, cap, rfl, fun j hj => World.ownsRow.cells h (g := g) rfl j _ (by simp [byteCells, hj])⟩
set_option maxRecDepth 100000 in
set_option maxHeartbeats 4000000 in
theorem format_any (V : Int) (a : Option Addr) (c : Nat) (zss : List (List Int)) (w : World) (hm : zss.length ≤ maxLen) (hA : AllLen zss) (hw : ∀ z ∈ zss, ∀ x ∈ z, I64 x) (h : RowsR .i64 w a zss) (he : Env w) :
    Calls Tryd.prog 13 #[.agg #[.int .i64 V, .slice a zss.length c]] w (FmtPost w V zss) := by
  have HA := Lib.hid hA
  have HW := Lib.hid hw
  have HE := Lib.hid he
  have HR := Lib.hid h
  obtain ⟨w1, hw1⟩ : ∃ w1, w.alloc (.cells #[.int .i64 V, .slice a zss.length c] 24) = w1 := ⟨_, rfl⟩
  have hb1 : Below w.heap.size w w1 := by rw [← hw1]; exact boxed _ _
  have k0 : w1.cell? ⟨w.heap.size, 0, none⟩ = some (.int .i64 V) := by rw [← hw1]; exact box0 _ _ _ _
  have k1 : w1.cell? ⟨w.heap.size, 1, none⟩ = some (.slice a zss.length c) := by rw [← hw1]; exact box1 _ _ _ _
  have hs1 : w1.heap.size = w.heap.size + 1 := by rw [← hw1]; simp
  have HBX : Hid (w1.heap[w.heap.size]? = some (.cells #[.int .i64 V, .slice a zss.length c] 24 (0, 0))) := by unfold Hid; rw [← hw1]; exact heap_alloc_new _ _
  have HW1 := Lib.hid hw1
  have HB1 := Lib.hid hb1
  have HS1 := Lib.hid hs1
  have HM := Lib.hid hm
  unfold maxLen at hm
  have HCk := Lib.hid (checkF_any V a c zss w1 HM.out hA (h.below hb1))
  clear hA hw he h hw1 hb1 hs1
  by_cases hc : checkF V zss = 0
  · obtain ⟨hV, hzl, hcl⟩ := checkF_fits hc
    have hVI : I64 V := ⟨by omega, by omega⟩
    have hhl := headT_le (V := V) (n := zss.length) hVI hzl
    have HCk2 : Hid (Calls Tryd.prog 19 #[.agg #[.int .i64 V, .slice a zss.length c]] w1 fun e w' => e = .returned (.int .i64 0) ∧ Below w1.heap.size w1 w') := by have := HCk.out; rw [hc] at this; exact this
    have HC0 := Lib.hid hc
    have HCL := Lib.hid hcl
    clear hc hcl HCk hVI hV
    go_enter Tryd.func13, Tryd.ntmps13
    go_wp2_with (go_at_call 19; rw [HW1.out]; refine HCk2.out.mono ?_; rintro e w2 ⟨rfl, hB2⟩; refine Hid.out ?_)
    refine Lib.hid ?_
    have HB2 := Lib.hid (HB1.out.trans (hB2.mono (by rw [HS1.out]; omega)))
    have HBX2 := Lib.hid ((hB2.block w.heap.size (by rw [HS1.out]; omega)).trans HBX.out)
    have k0' := (hB2.cell (p := ⟨w.heap.size, 0, none⟩) (by show w.heap.size < _; rw [HS1.out]; omega)).trans k0
    have k1' := (hB2.cell (p := ⟨w.heap.size, 1, none⟩) (by show w.heap.size < _; rw [HS1.out]; omega)).trans k1
    have hs2 : w.heap.size < w2.heap.size := by have := hB2.size; rw [HS1.out] at this; omega
    clear hB2 k0 k1
    go_wp2_with (go_at_call 22; refine (head_any w.heap.size w w2 rfl HB2.out HE.out V ⟨by have := (checkF_fits HC0.out).1; omega, by have := (checkF_fits HC0.out).1; omega⟩ a zss.length c hzl).mono ?_; rintro e w3 ⟨v3, rfl, hT3, hF3⟩; refine Hid.out ?_)
    refine Lib.hid ?_
    have HT3 := Lib.hid hT3
    have HF3 := Lib.hid (HB2.out.trans hF3.1)
    have k1 : w3.cell? ⟨w.heap.size, 1, none⟩ = some (.slice a zss.length c) := OthersKept.cell (i := 1) hF3.2 (by decide) HBX2.out rfl
    clear hT3 hF3 k0' k1'
    go_wp2
    go_loopw [5, 18] (fun t i wr => ∃ (k : Nat), i = .int .i64 k ∧ k ≤ zss.length ∧ (preT V zss k).length ≤ 65536 ∧ Hid (Txt wr w.heap.size t (preT V zss k)) ∧ Hid (Below w.heap.size w wr)) (fun _ i _ => zss.length - (intOf i).toNat)
    case atStart => exact ⟨0, rfl, Nat.zero_le _, by unfold preT; simp; omega, by unfold Hid preT; simpa using HT3.out, HF3.out⟩
    case round =>
      obtain ⟨k, rfl, hk, hpl, HT, HB⟩ := hrel
      clear k1
      by_cases hlt : k < zss.length
      · obtain ⟨b, off, aj, cj, zs, rfl, hbs, HZ, hcz, HK⟩ := HR.out.at hlt
        have hcw := (HB.out.cell (p := ⟨b, off + k, none⟩) hbs).trans hcz
        have hzm := List.mem_of_getElem? HZ.out
        have hz4 := HCL.out zs hzm
        have HCl := Lib.hid (clause_any w.heap.size w wr rfl HB.out HE.out _ _ HT.out (by omega) aj cj zs hz4 (HW.out zs hzm) HK.out)
        have HPN := Lib.hid (preT_next (V := V) HZ.out)
        have HPL := Lib.hid (preT_le V zss (k + 1))
        have hzl2 := litsT_le zs (HW.out zs hzm)
        clear hcz hzm
        go_wp2_with (go_at_call 23; refine HCl.out.mono ?_; rintro e w4 ⟨v4, rfl, hT4, hF4⟩; refine Hid.out ?_)
        refine Lib.hid ?_
        rw [← HPN.out] at hT4
        have hlen : (preT V zss (k + 1)).length ≤ 65536 + 90114 := by rw [HPN.out, List.length_append, clauseT_eq, List.length_append]; show _ + (_ + 2) ≤ _; omega
        have hpos : 0 < (preT V zss (k + 1)).length := by unfold preT; rw [List.length_append]; omega
        obtain ⟨g4, cap4, rfl, _⟩ := hT4.cells hpos
        have HT4 := Lib.hid hT4
        have HB4 := Lib.hid (HB.out.trans hF4.1)
        clear hT4 hF4 hcw
        by_cases hbig : 65536 < (preT V zss (k + 1)).length
        · have hd : decide (65536 < ((preT V zss (k + 1)).length : Int)) = true := by simp; omega
          have HF := Lib.hid (fmt_long HC0.out (Nat.lt_of_lt_of_le hbig HPL.out))
          go_wp2
          go_ret2
          exact fmtPost_of (S := []) HF.out.1 HF.out.2 HB4.out
        · have hd : decide (65536 < ((preT V zss (k + 1)).length : Int)) = false := by simp; omega
          go_wp2
          go_roundw
          case rel => exact ⟨k + 1, by go_num, by omega, by omega, HT4, HB4⟩
          case measure => simp [intOf]; omega
      · have HL := Lib.hid (preT_all (V := V) hlt)
        have hpos : 0 < (preT V zss k).length := by unfold preT; rw [List.length_append]; omega
        obtain ⟨g4, cap4, hv, hcl4⟩ := HT.out.cells hpos
        have HF := Lib.hid (fmt_ok HC0.out (by rw [← HL.out]; omega))
        have hcv := run_convert_bytes_back (P := Tryd.prog) wr 37 9 5 ⟨g4, 0, none⟩ cap4 (preT V zss k) Tryd.underlying37 Tryd.underlying5 Tryd.underlying9 hcl4
        subst hv
        clear hcl4
        go_wp2
        go_ret2
        exact fmtPost_of (S := preT V zss k) HF.out.1 (by rw [HF.out.2, HL.out]) HB.out
  · obtain ⟨r, hr⟩ : ∃ r, checkF V zss = r := ⟨_, rfl⟩
    rw [hr] at hc
    have HF := Lib.hid (fmt_bad hr hc)
    have HCk2 : Hid (Calls Tryd.prog 19 #[.agg #[.int .i64 V, .slice a zss.length c]] w1 fun e w' => e = .returned (.int .i64 r) ∧ Below w1.heap.size w1 w') := by have := HCk.out; rw [hr] at this; exact this
    have e1 : (r != 0) = true := by simp [hc]
    clear hc hr HCk
    go_enter Tryd.func13, Tryd.ntmps13
    go_wp2_with (go_at_call 19; rw [HW1.out]; refine HCk2.out.mono ?_; rintro e w2 ⟨rfl, hB2⟩)
    go_ret2
    exact fmtPost_of (S := []) HF.out.1 HF.out.2 (HB1.out.trans (hB2.mono HB1.out.size))
end Go.Proofs.YtkannkalbhmlcaaDoor
