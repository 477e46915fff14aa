/-
  before, size, has, key, precedes, swap.
-/
import Derived.Test.YtfighepopmaimaaOrdB
namespace Go.Proofs.Ytfighepopmaimaa
open Go.RowKit Go.Lib
open Go.RowKit (Below)

/-- What comes first, of activities and variables. -/
def befI (a1 v1 a2 v2 : Int) : Bool := decide (a2 < a1) || (decide (a1 = a2) && decide (v1 < v2))
theorem befI_bef (act : Nat → Int) (e f : Nat) : befI (act e) ((e : Int) + 1) (act f) ((f : Int) + 1) = bef act e f := by
  unfold befI bef
  rw [show decide ((e : Int) + 1 < (f : Int) + 1) = decide (e < f) from by rw [Bool.eq_iff_iff]; simp]

theorem before_any (a1 v1 a2 v2 : Int) (w : World) : Calls Try.prog 30 #[.agg #[.int .i64 a1, .int .i64 v1], .agg #[.int .i64 a2, .int .i64 v2]] w fun e w' => e = .returned (.bool (befI a1 v1 a2 v2)) ∧ Below w.heap.size w w' := by
  by_cases h : a1 = a2
  · have e1 : (a1 != a2) = false := by simp [h]
    have hd : befI a1 v1 a2 v2 = decide (v1 < v2) := by unfold befI; simp [h]
    rw [hd]
    clear h hd
    go_enter Try.func30, Try.ntmps30
    go_wp2
    go_ret
    exact ⟨rfl, ((Below.refl _ _).alloc (Nat.le_refl _) _).alloc (by simp) _⟩
  · have e1 : (a1 != a2) = true := by simp [h]
    have hd : befI a1 v1 a2 v2 = decide (a2 < a1) := by unfold befI; simp [h]
    rw [hd]
    clear h hd
    go_enter Try.func30, Try.ntmps30
    go_wp2
    go_ret
    exact ⟨rfl, ((Below.refl _ _).alloc (Nat.le_refl _) _).alloc (by simp) _⟩

section
variable {T : TypeId} {m : Mq} {Q : Qs} {w : World}
theorem size_is (h : QR T m Q w) : Calls Try.prog 34 #[.pointer (some ⟨m.gb, 0, none⟩)] w fun e w' => e = .returned (.int .i64 (Q.tree.length : Int)) ∧ w = w' := by
  have c2 := h.c2
  generalize Q.tree.length = n at *
  clear h
  go_enter Try.func34, Try.ntmps34
  go_wp2
  go_ret
  exact ⟨rfl, rfl⟩
theorem has_is (h : QR T m Q w) {e : Nat} (he : e < Q.n) {b : Bool} (hb : (Q.pl e != -1) = b) : Calls Try.prog 37 #[.pointer (some ⟨m.gb, 0, none⟩), .int .i64 (e : Int)] w fun x w' => x = .returned (.bool b) ∧ w = w' := by
  have c3 := h.c3
  have c1 := h.pa he
  have hfew := h.few
  have he1 : (e : Int) < (Q.n : Int) := by omega
  have he0 : (0 : Int) ≤ (e : Int) := by omega
  generalize Q.pl e = x at *
  generalize Q.n = n at *
  clear h
  have HB := Lib.hid hb
  clear hb
  go_enter Try.func37, Try.ntmps37
  go_wp2
  go_ret
  exact ⟨ret_bool HB.out, rfl⟩
theorem key_is (h : QR T m Q w) {e : Nat} (he : e < Q.n) : Calls Try.prog 32 #[.pointer (some ⟨m.gb, 0, none⟩), .int .i64 (e : Int)] w fun x w' => x = .returned (.agg #[.int .i64 (Q.act e), .int .i64 ((e : Int) + 1)]) ∧ Below w.heap.size w w' := by
  have c1 := h.c1
  have k1 := h.ka he
  have k2 := h.kv he
  have hfew := h.few
  have he1 : (e : Int) < (Q.n : Int) := by omega
  have he0 : (0 : Int) ≤ (e : Int) := by omega
  have l1 := h.keys.lt
  have l2 := h.blk.lt
  generalize Q.act e = x at *
  generalize Q.n = n at *
  clear h
  go_enter Try.func32, Try.ntmps32
  go_wp2
  exact bodyPost_ret (v := .agg #[.int .i64 x, .int .i64 ((e : Int) + 1)]) (by simp [results, Try.results32, go_sem]) rfl ⟨rfl, (Below.refl _ _).alloc (Nat.le_refl _) _⟩
/-- Does the element at a place come before the one at another place? -/
theorem precedes_is (h : QR T m Q w) (ho : Q.Ok) {p o : Nat} (hp : p < Q.tree.length) (hq : o < Q.tree.length) {b : Bool} (hb : bef Q.act (Q.at_ p) (Q.at_ o) = b) : Calls Try.prog 44 #[.pointer (some ⟨m.gb, 0, none⟩), .int .i64 (p : Int), .int .i64 (o : Int)] w fun x w' => x = .returned (.bool b) ∧ Below w.heap.size w w' := by
  have c0 := h.c0
  have c1 := h.c1
  have c2 := h.c2
  have hlp := ho.lt p hp
  have hlo := ho.lt o hq
  have t1 := h.ta hp
  have t2 := h.ta hq
  have k1 := h.ka hlp
  have k2 := h.kv hlp
  have k3 := h.ka hlo
  have k4 := h.kv hlo
  have hfew := h.few
  have hlen := ho.len
  rw [← befI_bef] at hb
  have p1 : (p : Int) < (Q.tree.length : Int) := by omega
  have p0 : (0 : Int) ≤ (p : Int) := by omega
  have o1 : (o : Int) < (Q.tree.length : Int) := by omega
  have o0 : (0 : Int) ≤ (o : Int) := by omega
  have a1 : ((Q.at_ p : Nat) : Int) < (Q.n : Int) := by omega
  have a0 : (0 : Int) ≤ ((Q.at_ p : Nat) : Int) := by omega
  have b1 : ((Q.at_ o : Nat) : Int) < (Q.n : Int) := by omega
  have b0 : (0 : Int) ≤ ((Q.at_ o : Nat) : Int) := by omega
  generalize Q.act (Q.at_ p) = x at *
  generalize Q.act (Q.at_ o) = y at *
  generalize Q.at_ p = e at *
  generalize Q.at_ o = f at *
  generalize Q.n = n at *
  generalize Q.tree.length = L at *
  have HB := Lib.hid hb
  clear hb h ho hlp hlo hp hq
  go_enter Try.func44, Try.ntmps44
  go_wp2
  go_still_tail 30, (by kernel_rfl)
  generalize hw2 : World.mk w.heap w.tape _ _ _ = w2
  have HW : Hid (Below w.heap.size w w2) := by rw [← hw2]; exact ⟨rfl, rfl, rfl, Nat.le_refl _, fun _ _ => rfl⟩
  clear hw2
  go_wp2_with (go_at_call 30; refine (before_any _ _ _ _ _).mono ?_; rintro e w' ⟨rfl, hb⟩)
  go_ret
  exact ⟨ret_bool HB.out, HW.out.trans (hb.mono HW.out.size)⟩
theorem swap_is (h : QR T m Q w) (ho : Q.Ok) {p o : Nat} (hp : p < Q.tree.length) (hq : o < Q.tree.length) : Calls Try.prog 40 #[.pointer (some ⟨m.gb, 0, none⟩), .int .i64 (p : Int), .int .i64 (o : Int)] w fun x w' => x = .returned (.tuple #[]) ∧ QR T m (Q.swap p o) w' ∧ Touch m.foot w w' ∧ w'.heap.size = w.heap.size := by
  have c2 := h.c2
  have c3 := h.c3
  have hlp := ho.lt p hp
  have hlo := ho.lt o hq
  have t1 := h.ta hp
  have t2 := h.ta hq
  have hfew := h.few
  have hlen := ho.len
  have p1 : (p : Int) < (Q.tree.length : Int) := by omega
  have p0 : (0 : Int) ≤ (p : Int) := by omega
  have o1 : (o : Int) < (Q.tree.length : Int) := by omega
  have o0 : (0 : Int) ≤ (o : Int) := by omega
  have a1 : ((Q.at_ p : Nat) : Int) < (Q.n : Int) := by omega
  have a0 : (0 : Int) ≤ ((Q.at_ p : Nat) : Int) := by omega
  have b1 : ((Q.at_ o : Nat) : Int) < (Q.n : Int) := by omega
  have b0 : (0 : Int) ≤ ((Q.at_ o : Nat) : Int) := by omega
  have HQ := Lib.hid h
  have HP := Lib.hid hp
  have HO := Lib.hid hq
  have HA := Lib.hid hlp
  have HB := Lib.hid hlo
  clear h ho hlp hlo hp hq hlen
  go_enter Try.func40, Try.ntmps40
  go_wp2
  go_quiet (fail)
  go_wp2
  generalize hwq : w.drewN nq = wq
  have hq0 : QuietTo w wq := ⟨nq, hwq.symm⟩
  have HW := Lib.hid hq0
  have h1 := HQ.out.below (quietBelow hq0 _)
  have h2 := h1.setTree p (Q.at_ o)
  have h3 := h2.setTree o (Q.at_ p)
  have H3 := Lib.hid h3
  have d2 := h1.c2
  have u1 := h1.ta HP.out
  have f1 := h1.tree.free p
  have u2 := h2.ta (i := o) (by dsimp only; rw [List.length_set]; exact HO.out)
  have f2 := h2.tree.free o
  clear hwq hq0 h1 h2 h3 c2 t1 t2
  generalize Qs.at_ { Q with tree := Q.tree.set p (Q.at_ o) } o = z at u2
  go_region
  generalize hw2 : ((wq.setCell ⟨m.tb, p, none⟩ (.int .i64 (Q.at_ o : Nat))).setCell ⟨m.tb, o, none⟩ (.int .i64 (Q.at_ p : Nat))) = w2
  have HT1 : Hid (Touch m.foot w w2) := by
    rw [← hw2]
    exact ((Touch.quiet HW.out _).trans (Touch.setCell _ (by simp [Mq.foot]))).trans (Touch.setCell _ (by simp [Mq.foot]))
  have HS1 : Hid (w2.heap.size = w.heap.size) := by obtain ⟨q, hq⟩ := HW.out; rw [← hw2, hq]; simp [Hid]
  rw [hw2] at H3
  clear hw2 u1 u2 f1 f2 d2
  have hq1 : QuietTo w2 w2.drew := ⟨1, rfl⟩
  have HW2 := Lib.hid hq1
  generalize w2.drew = w3 at *
  have h4 := H3.out.below (quietBelow hq1 _)
  have HT2 : Hid (Touch m.foot w w3) := HT1.out.trans (Touch.quiet hq1 _)
  have HS2 : Hid (w3.heap.size = w.heap.size) := by obtain ⟨q, hq⟩ := hq1; rw [hq]; exact HS1.out
  have h5 := h4.setPl (Q.at_ o) p
  have h6 := h5.setPl (Q.at_ p) o
  have H6 := Lib.hid h6
  have d3 := h4.c3
  have u1 := h4.pa HB.out
  have f1 := h4.pls.free (Q.at_ o)
  have u2 := h5.pa HA.out
  have f2 := h5.pls.free (Q.at_ p)
  clear hq1 h4 h5 h6 c3 H3 HW2 HT1 HS1
  dsimp only at u1 u2
  generalize upN Q.pl (Q.at_ o) p (Q.at_ p) = z1 at u2
  generalize Q.pl (Q.at_ o) = z2 at u1
  go_wp2
  go_region
  generalize hw4 : ((w3.setCell ⟨m.pb, Q.at_ o, none⟩ (.int .i64 p)).setCell ⟨m.pb, Q.at_ p, none⟩ (.int .i64 o)) = w4
  have HT3 : Hid (Touch m.foot w w4) := by
    rw [← hw4]
    exact (HT2.out.trans (Touch.setCell _ (by simp [Mq.foot]))).trans (Touch.setCell _ (by simp [Mq.foot]))
  have HS3 : Hid (w4.heap.size = w.heap.size) := by rw [← hw4]; simp [Hid]; exact HS2.out
  rw [hw4] at H6
  have hq9 : QuietTo w4 w4.drew := ⟨1, rfl⟩
  clear hw4 u1 u2 f1 f2 d3
  go_end0
  exact ⟨rfl, H6.out.below (quietBelow hq9 _), HT3.out.trans (Touch.quiet hq9 _), HS3.out⟩
end
end Go.Proofs.Ytfighepopmaimaa
