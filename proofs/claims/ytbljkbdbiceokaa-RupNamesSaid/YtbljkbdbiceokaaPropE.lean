/-
  learn: a literal becomes known, and is sent.
-/
import Derived.Test.YtbljkbdbiceokaaPropD
namespace Go.Proofs.Ytbljkbdbiceokaa
open Go.RowKit Go.Lib
open Go.RowKit (Below)
open Go.Conc (solo G rcase scase uponK)

theorem learn_any {B : Nat} {m : Mm} {f : Int → Value} {cv : Value} {N s r : Nat} {vs : List Value} {S : St} {w : World} (h : PR B m f cv N s r vs S w) {x : Int} (hx : x.natAbs ≤ m.n) (hn : m.n ≤ 1000000) (hroom : kat S.known x = 0 → S.queue.length < 2 * m.n) :
    Calls Try.prog 60 #[.pointer (some ⟨m.pb, 0, none⟩), .int .i64 x] w fun e w' => e = .returned (.bool (learnS S x).2) ∧ (∃ s', PR B m f cv N s' r vs (learnS S x).1 w') ∧ Below B w w' := by
  obtain ⟨j, hj⟩ : ∃ j, x.natAbs = j := ⟨_, rfl⟩
  have hkat : kat S.known x = S.known.getD j 0 := by unfold kat; rw [hj]
  have c0 : w.cell? ⟨m.pb, 0, none⟩ = some (.slice (some ⟨m.kb, 0, none⟩) (m.n + 1) (m.n + 1)) := h.blk.cell rfl
  have c2 := h.known (j := j) (by omega)
  have f2 : w.frozen? ⟨m.kb, j, none⟩ = false := h.kn.free j
  have hb1 : -9223372036854775808 < x := by omega
  have hb2 : x ≤ 9223372036854775807 := by omega
  have hj1 : (0 : Int) ≤ (j : Int) := by omega
  have hj2 : (j : Int) < (m.n : Int) + 1 := by omega
  have KV := Lib.hid (fun W => pvariable_is x j hj hb1 hb2 W)
  have HP := Lib.hid h
  have HX := Lib.hid hx
  by_cases h0 : kat S.known x = 0
  · have hL : (learnS S x).2 = true := by unfold learnS; rw [if_pos h0]
    have hK : (learnS S x).1.known.getD j 0 = x := by
      unfold learnS; rw [if_pos h0]; dsimp only
      rw [List.getD_eq_getElem?_getD, hj, List.getElem?_set_self (by rw [h.klen]; omega)]; rfl
    have HR := Lib.hid (hroom h0)
    have H0 := Lib.hid h0
    have HKN := Lib.hid hK
    rw [hL]
    rw [← hkat, h0] at c2
    have e1 : (x == x) = true := by simp
    have HJ := Lib.hid hj
    clear hroom hL h h0 hkat hj hx hK
    go_enter Try.func60, Try.ntmps60
    rw [kept 4]
    go_wp2
    go_quiet ((go_at_call 69; exact Calls.quiet_of_same (KV.out _)))
    go_wp2
    have HP2 := HP.out.below (quietBelow ⟨nq, rfl⟩ _ : Below w.heap.size w (w.drewN nq))
    have HP3 := HP2.learn H0.out
    have HB3 := HP2.learnBelow x ((S.queue.map (Value.int .i64)).toArray.push (.int .i64 x))
    rw [HJ.out] at HP3 HB3
    have c1 : ((w.drewN nq).setCell { block := m.kb, off := j } (Value.int IntKind.i64 x)).cell? ⟨m.pb, 1, none⟩ = some (.chan (some m.qb)) := by
      rw [World.cell?_of_block (setCell_block _ _ _ HP.out.d1)]; exact HP.out.blk.cell rfl
    have hch : ((w.drewN nq).setCell { block := m.kb, off := j } (Value.int IntKind.i64 x)).heap[m.qb]? = some (Obj.chan (2 * m.n) (List.map (Value.int IntKind.i64) S.queue).toArray false s r false) := by
      rw [setCell_block _ _ _ (Ne.symm HP.out.d4)]; exact HP.out.chan
    refine wp_kept ?_
    simp only [List.size_toArray, List.length_cons, List.length_nil, Nat.reduceAdd, Nat.zero_add, List.range, List.range.loop]
    (refine opsTo_k rfl (by rfl) (fun K hK => ?_); go_simp; refine hK _ _ ?_; clear hK K)
    (refine opsTo_k rfl (by rfl) (fun K hK => ?_); go_simp; refine hK _ _ ?_; clear hK K)
    (refine opsTo_k rfl (by rfl) (fun K hK => ?_); go_simp; refine hK _ _ ?_; clear hK K)
    (refine opsTo_k rfl (by rfl) (fun K hK => ?_); go_simp; refine hK _ _ ?_; clear hK K)
    (refine opsTo_k rfl (by rfl) (fun K hK => ?_); go_simp; refine hK _ _ ?_; clear hK K)
    refine opsTo_send (v := .int .i64 x) (z := .tuple #[]) rfl (by rfl) (by simp [execOp, scase, Act.eval]) hch (by simpa using HR.out) ?_
    refine opsTo_done ?_
    have HPX := Lib.hid HP3
    have HBX := Lib.hid HB3
    have c3 := HP3.known (j := j) (by rw [← HJ.out]; exact HX.out)
    rw [HKN.out] at c3
    have HQ := Lib.hid (quietBelow ⟨nq, rfl⟩ B : Below B w (w.drewN nq))
    clear HP3 HB3 HP2 c1 hch c2
    generalize (World.setChan _ _ _ _ _ _ _ _) = w2 at HPX HBX c3 ⊢
    go_wp2
    go_ret
    exact ⟨rfl, ⟨_, HPX.out⟩, HQ.out.trans HBX.out⟩
  · have hL : (learnS S x).2 = decide (S.known.getD j 0 = x) := by unfold learnS; rw [if_neg h0, hkat]
    have hS : (learnS S x).1 = S := by unfold learnS; rw [if_neg h0]
    rw [hL, hS]
    rw [hkat] at h0
    generalize S.known.getD j 0 = k at *
    have e1 : (k == 0) = false := by simpa using h0
    have HD : Hid ((k == x) = decide (k = x)) := rfl
    clear hroom hL hS h h0 hkat hj hx f2
    go_enter Try.func60, Try.ntmps60
    go_wp2
    go_quiet ((go_at_call 69; exact Calls.quiet_of_same (KV.out _)))
    go_wp2
    go_ret
    exact ⟨ret_bool HD.out, ⟨_, HP.out.below (quietBelow ⟨nq, rfl⟩ _)⟩, quietBelow ⟨nq, rfl⟩ _⟩
end Go.Proofs.Ytbljkbdbiceokaa
