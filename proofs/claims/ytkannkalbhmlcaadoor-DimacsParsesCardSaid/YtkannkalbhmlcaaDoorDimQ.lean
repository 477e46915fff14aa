/-
  'two' and 'known': the closed example that each statement of layer 3 ends with.
-/
import Derived.Test.YtkannkalbhmlcaaDoorDimP
import Derived.Test.YtkannkalbhmlcaaDoorDimL
import Derived.Test.YtkannkalbhmlcaaDoorDimM
import Derived.Test.YtkannkalbhmlcaaDoorCnfR
namespace Go.Proofs.YtkannkalbhmlcaaDoor
open Go.RowKit Go.Lib
open Go.RowKit (Below)

theorem format_is {V : Int} {zss : List (List Int)} {l : Nat} {s : ByteArray} (hl : zss.length = l) (hS : formT V zss = W8 s) (hc : checkF V zss = 0) (h6 : (formT V zss).length ≤ 65536) (a : Option Addr) (c : Nat) (w : World) (hm : l ≤ maxLen) (hA : AllLen zss) (hw : ∀ z ∈ zss, ∀ x ∈ z, I64 x) (h : RowsR .i64 w a zss) (he : Env w) :
    Calls Tryd.prog 13 #[.agg #[.int .i64 V, .slice a l c]] w fun e w' => e = .returned (.tuple #[.string s, .int .i64 0]) ∧ Below w.heap.size w w' := by
  subst hl
  have hs : (⟨(formT V zss).toArray⟩ : ByteArray) = s := by rw [hS]
  have h1 := fmt_ok hc (by omega : ¬ 65536 < (formT V zss).length)
  refine (format_any V a c zss w hm hA hw h he).mono fun e w' ⟨h2, h3⟩ => ⟨?_, h3⟩
  rw [h2, h1.1, h1.2, hs]
theorem parse_is {s : ByteArray} {o : Out} {l : Nat} (ho : parseB (W8 s) = o) (hl : o.cls.length = l) (w : World) (hs : s.size ≤ 1048576) (he : Env w) :
    Calls Tryd.prog 15 #[.string s] w fun e w' => ∃ a c, e = .returned (.tuple #[.agg #[.int .i64 o.vars, .slice a l c], .int .i64 o.line, .int .i64 o.err]) ∧ RowsR .i64 w' a o.cls ∧ Below w.heap.size w w' := by
  subst ho hl
  exact parse_any s w hs he

def twoL : List (List Int) := [[1, -3], []]
theorem twoL_all : AllLen twoL := by
  intro z hz
  simp [twoL] at hz
  rcases hz with rfl | rfl <;> (unfold maxLen; simp)
theorem twoL_i64 : ∀ z ∈ twoL, ∀ x ∈ z, I64 x := by
  intro z hz x hx
  simp [twoL] at hz
  rcases hz with rfl | rfl
  · simp at hx; rcases hx with rfl | rfl <;> (unfold I64; omega)
  · cases hx
theorem two_check : checkF 3 twoL = 0 := by decide +kernel
def twoT : List UInt8 := [112, 32, 99, 110, 102, 32, 51, 32, 50, 10, 49, 32, 45, 51, 32, 48, 10, 48, 10]
theorem itoa_one {n : Nat} (h : n < 10) : itoa (n : Int) = [UInt8.ofNat (48 + n)] := by
  unfold itoa; rw [if_neg (by omega), Int.toNat_natCast]; exact decDigits_one h
theorem itoa_neg_one {n : Nat} (h : n < 10) (h0 : 0 < n) : itoa (-(n : Int)) = [45, UInt8.ofNat (48 + n)] := by
  unfold itoa; rw [if_pos (by omega), Int.natAbs_neg, Int.natAbs_natCast, decDigits_one h]
theorem itoa1 : itoa 1 = [49] := itoa_one (n := 1) (by omega)
theorem itoa2 : itoa 2 = [50] := itoa_one (n := 2) (by omega)
theorem itoa3 : itoa 3 = [51] := itoa_one (n := 3) (by omega)
theorem itoan3 : itoa (-3) = [45, 51] := itoa_neg_one (n := 3) (by omega) (by omega)
def twoS : ByteArray := ⟨#[112, 32, 99, 110, 102, 32, 51, 32, 50, 10, 49, 32, 45, 51, 32, 48, 10, 48, 10]⟩
theorem two_text : formT 3 twoL = twoT := by
  simp [formT, headT, clauseT, twoL, twoT, itoa1, itoa2, itoa3, itoan3]
theorem two_ok : FmOk 3 twoL := ⟨by omega, by simp [twoL], fun z hz => by
  simp [twoL] at hz
  rcases hz with rfl | rfl
  · exact ⟨by simp, fun x hx => by simp at hx; rcases hx with rfl | rfl <;> omega⟩
  · exact ⟨by simp, fun x hx => by cases hx⟩⟩
theorem two_parse : parseB twoT = ⟨3, twoL, 0, 0⟩ := by
  have h := parse_form two_ok (by rw [two_text]; simp [twoT])
  rw [two_text] at h; exact h

def T1 (w : World) (o : Obj) : World := ((w.alloc o).alloc (.cells #[.int .i64 1, .int .i64 (-3)] 3)).alloc (.cells #[] 3)
theorem T1_size (w : World) (o : Obj) : (T1 w o).heap.size = w.heap.size + 3 := by simp [T1]
theorem T1_below (w : World) (o : Obj) : Below w.heap.size w (T1 w o) :=
  (((Below.refl _ _).alloc (Nat.le_refl _) _).alloc (by simp) _).alloc (by simp; omega) _
theorem two_rows (w : World) (o : Obj) : RowsR .i64 ((T1 w o).alloc (.cells #[.slice (some ⟨w.heap.size + 1, 0, none⟩) 2 2, .slice (some ⟨w.heap.size + 1 + 1, 0, none⟩) 0 0] 34)) (some ⟨w.heap.size + 1 + 1 + 1, 0, none⟩) twoL := by
  refine .inr ⟨_, 0, rfl, by simp [T1_size], fun j hj => ?_⟩
  have k1 : KI .i64 (T1 w o) (some ⟨w.heap.size + 1, 0, none⟩) [1, -3] := by
    unfold T1
    exact (KI.of (IntsR.lit _ _ _ _ (by simp) rfl)).alloc _
  rw [Nat.zero_add, World.cell?_alloc_at _ _ _ _ (by rw [T1_size])]
  match j, hj with
  | 0, _ => exact ⟨_, 2, rfl, k1.alloc _⟩
  | 1, _ => exact ⟨_, 0, rfl, .inl rfl⟩
  | n + 2, hj => exact absurd hj (by simp [twoL])
theorem two_any (w : World) : Calls Tryd.prog 21 #[] w fun e w' => ∃ a, e = .returned (.agg #[.int .i64 3, .slice a 2 2]) ∧ RowsR .i64 w' a twoL ∧ Below w.heap.size w w' := by
  have H := fun o => Lib.hid (two_rows w o)
  have HB := fun o => Lib.hid ((T1_below w o).alloc (by rw [T1_size]; omega) (.cells #[.slice (some ⟨w.heap.size + 1, 0, none⟩) 2 2, .slice (some ⟨w.heap.size + 1 + 1, 0, none⟩) 0 0] 34))
  go_enter Tryd.func21, Tryd.ntmps21
  go_wp2
  refine bodyPost_ret (v := .agg #[.int .i64 3, .slice (some ⟨w.heap.size + 1 + 1 + 1, 0, none⟩) 2 2]) (by simp [results, Tryd.results21, go_sem]) rfl ⟨_, rfl, (H _).out, (HB _).out⟩

theorem two_eq : eqFm 3 twoL 3 twoL = true := eqFm_refl _ _
set_option maxRecDepth 100000 in
set_option maxHeartbeats 2000000 in
theorem known_any (w : World) (he : Env w) : Calls Tryd.prog 12 #[] w fun e w' => e = .returned (.bool true) ∧ Below w.heap.size w w' := by
  have HA := Lib.hid twoL_all
  have HI := Lib.hid twoL_i64
  have HE := Lib.hid he
  have HT : Hid (formT 3 twoL = W8 ⟨#[112, 32, 99, 110, 102, 32, 51, 32, 50, 10, 49, 32, 45, 51, 32, 48, 10, 48, 10]⟩) := two_text
  have HP := Lib.hid two_parse
  have HC := Lib.hid two_check
  have HQ := Lib.hid two_eq
  have HL : Hid ((formT 3 twoL).length ≤ 65536) := by unfold Hid; rw [two_text]; simp [twoT]
  clear he
  go_enter Tryd.func12, Tryd.ntmps12
  go_wp2_with fail
  refine (two_any _).mono ?_
  rintro e w1 ⟨a, rfl, hR, hB1⟩
  have HR := Lib.hid hR
  have HB := Lib.hid hB1
  clear hR hB1
  go_wp2_with fail
  refine (format_is (zss := twoL) (l := 2) rfl HT.out HC.out HL.out _ _ _ (by unfold maxLen; omega) HA.out HI.out HR.out (HE.out.below HB.out)).mono ?_
  rintro e w2 ⟨rfl, hB2⟩
  have HB2 := Lib.hid (HB.out.trans (hB2.mono HB.out.size))
  clear hB2 HB HR
  go_wp2_with fail
  refine (parse_is (o := ⟨3, twoL, 0, 0⟩) (l := 2) HP.out rfl _ (by simp [ByteArray.size]) (HE.out.below HB2.out)).mono ?_
  rintro e w3 ⟨b, d, rfl, hR3, hB3⟩
  have HR3 := Lib.hid hR3
  have HB3 := Lib.hid (HB2.out.trans (hB3.mono HB2.out.size))
  clear hR3 hB3 HB2
  go_wp2_with fail
  generalize hgw : w3.alloc (.cells #[.int .i64 3, .slice b 2 d] 24) = wa
  have HF : Hid (Two wa w3.heap.size (.int .i64 3) (.slice b 2 d)) := by rw [← hgw]; exact Two.new _ _ _
  have HBa : Hid (Below w.heap.size w wa) := by rw [← hgw]; exact HB3.out.alloc HB3.out.size _
  have HRa : Hid (RowsR .i64 wa b twoL) := by rw [← hgw]; exact HR3.out.alloc _
  clear hgw HB3 HR3
  have hza : w3.heap.size < wa.heap.size := HF.out.lt
  have HH : Hid (∀ w', Hid (Below wa.heap.size wa w') → w'.cell? ⟨w3.heap.size, 0, none⟩ = some (.int .i64 3) ∧ w'.cell? ⟨w3.heap.size, 1, none⟩ = some (.slice b 2 d) ∧ Hid (Below wa.heap.size wa w')) :=
    fun w' hb => ⟨(HF.out.below hb.out hza).c0, (HF.out.below hb.out hza).c1, hb⟩
  have HD : Hid (Below wa.heap.size wa wa.drew) := (Below.refl _ _).drew
  have K1 : Hid (∀ W, Hid (Below wa.heap.size wa W) → Calls Tryd.prog 21 #[] W fun e w' => ∃ g, e = .returned (.agg #[.int .i64 3, .slice g 2 2]) ∧ Hid (RowsR .i64 w' g twoL) ∧ Hid (Below wa.heap.size wa w')) := fun W hW =>
    (two_any W).mono fun e w' ⟨g, he, hG, hb⟩ => ⟨g, he, hG, hW.out.trans (hb.mono hW.out.size)⟩
  have K2 : Hid (∀ W g, Hid (Below wa.heap.size wa W) → Hid (RowsR .i64 W g twoL) → Calls Tryd.prog 17 #[.agg #[.int .i64 3, .slice b 2 d], .agg #[.int .i64 3, .slice g 2 2]] W fun e w' => e = .returned (.bool true) ∧ Hid (Below wa.heap.size wa w')) := fun W g hW hR =>
    (equalFormula_is (n := 3) (k := 3) (xs := twoL) (ys := twoL) (i := 2) (j := 2) rfl rfl HQ.out _ _ _ _ W (by unfold maxLen; omega) HA.out (HRa.out.below hW.out) hR.out).mono fun e w' ⟨he, hb⟩ => ⟨he, hW.out.trans (hb.mono hW.out.size)⟩
  go_region_held3 (fun w' => w'.cell? ⟨w3.heap.size, 0, none⟩ = some (.int .i64 3) ∧ w'.cell? ⟨w3.heap.size, 1, none⟩ = some (.slice b 2 d) ∧ Hid (Below wa.heap.size wa w')) (first | exact HH.out _ HD | exact HH.out _ (by assumption))
    (first | (go_at_call 21; ((with_reducible refine (K1.out _ ?_).mono ?_)); (· assumption); rintro e w' ⟨g, rfl, hL, hb⟩) | (go_at_call 17; ((with_reducible refine (K2.out _ _ ?_ ?_).mono ?_)); (· assumption); (· assumption); rintro e w' ⟨rfl, hb⟩))
  have HB4 := Lib.hid (HBa.out.trans (hb.out.mono HBa.out.size))
  clear hb HBa HRa HF HH HD K1 K2
  go_wp2
  go_ret
  exact ⟨rfl, HB4.out⟩
end Go.Proofs.YtkannkalbhmlcaaDoor
