/-
  OpArities' walk.
-/
import Derived.Test.YtnhcbnjibkfnnaaDoorOpC
import Derived.Test.YtnhcbnjibkfnnaaDoorRowLaidOp
import Derived.DeepKeys
namespace Go.Proofs.YtnhcbnjibkfnnaaDoor
open Go.RowKit Go.Lib Ops
open Go.RowKit (Below)

/-- How many of the numbers a, a + 1 .. (k of them, as bytes) are operators with n arguments. -/
def arC (a n : Nat) : Nat → Nat
  | 0 => 0
  | k + 1 => arC a n k + (if (a + k) % 256 < 22 && arityN ((a + k) % 256) == n then 1 else 0)
theorem arC_le (a n : Nat) : ∀ k, arC a n k ≤ k
  | 0 => Nat.le_refl _
  | k + 1 => by have := arC_le a n k; simp only [arC]; split <;> omega
theorem arC_all : ∀ a, a ≤ 255 → arC a 0 256 = 2 ∧ arC a 1 256 = 2 ∧ arC a 2 256 = 17 ∧ arC a 3 256 = 1 := by
  have : ((List.range 256).all fun a => arC a 0 256 == 2 && arC a 1 256 == 2 && arC a 2 256 == 17 && arC a 3 256 == 1) = true := by decide +kernel
  intro a ha
  have h := List.all_eq_true.1 this a (List.mem_range.2 (by omega))
  simp only [Bool.and_eq_true, beq_iff_eq] at h
  exact ⟨h.1.1.1, h.1.1.2, h.1.2, h.2⟩

/-- The block of the four counts. -/
def Four (w : World) (g : Nat) (x : Nat → Nat) : Prop := w.heap[g]? = some (.cells #[.int .i64 (x 0 : Int), .int .i64 (x 1 : Int), .int .i64 (x 2 : Int), .int .i64 (x 3 : Int)] 36)
theorem Four.lt {w : World} {g : Nat} {x : Nat → Nat} (h : Four w g x) : g < w.heap.size := (Array.getElem?_eq_some_iff.1 h).1
theorem Four.cell {w : World} {g : Nat} {x : Nat → Nat} (h : Four w g x) (i : Nat) (hi : i < 4) : w.cell? ⟨g, i, none⟩ = some (.int .i64 (x i : Int)) := by
  unfold Four at h
  rcases i with _ | _ | _ | _ | i
  all_goals first | (simp [World.cell?, h]; done) | omega
theorem Four.free {w : World} {g : Nat} {x : Nat → Nat} (h : Four w g x) (i : Nat) : w.frozen? ⟨g, i, none⟩ = false := by unfold Four at h; simp [World.frozen?, h]
theorem Four.set {w : World} {g : Nat} {x y : Nat → Nat} (h : Four w g x) (i : Nat) (hi : i < 4) (v : Int) (hv : v = y i) (hy : ∀ j, j ≠ i → y j = x j) : Four (w.setCell ⟨g, i, none⟩ (.int .i64 v)) g y := by
  subst hv
  unfold Four at h ⊢
  rcases i with _ | _ | _ | _ | i
  · rw [hy 1 (by omega), hy 2 (by omega), hy 3 (by omega)]; simp [World.setCell, Array.getElem?_modify, h]
  · rw [hy 0 (by omega), hy 2 (by omega), hy 3 (by omega)]; simp [World.setCell, Array.getElem?_modify, h]
  · rw [hy 0 (by omega), hy 1 (by omega), hy 3 (by omega)]; simp [World.setCell, Array.getElem?_modify, h]
  · rw [hy 0 (by omega), hy 1 (by omega), hy 2 (by omega)]; simp [World.setCell, Array.getElem?_modify, h]
  · omega

theorem eq_self (W : World) : (Op.equalIn 10000 36 (.agg #[.int .i64 2, .int .i64 2, .int .i64 17, .int .i64 1]) (.agg #[.int .i64 2, .int .i64 2, .int .i64 17, .int .i64 1])).run Tryd.prog W = .ok true W := by
  obtain ⟨r, h, hr⟩ := run_equalIn_deep 9995 5 36 (by kernel_rfl) W 5 5 (.agg #[.int .i64 2, .int .i64 2, .int .i64 17, .int .i64 1]) (.agg #[.int .i64 2, .int .i64 2, .int .i64 17, .int .i64 1])
    [.int .i64 2, .int .i64 2, .int .i64 17, .int .i64 1] [.int .i64 2, .int .i64 2, .int .i64 17, .int .i64 1] (by kernel_rfl) (by kernel_rfl) (by kernel_rfl) (by kernel_rfl)
  rw [hr.2 rfl] at h
  exact h

set_option maxRecDepth 100000 in
set_option maxHeartbeats 4000000 in
theorem opArities_walk (w : World) (o : Int) (ho : (Lit.int .u8 o).wf = true) (he : Env w) :
    Calls Tryd.prog 9 #[.int .u8 o] w fun e w' => e = .returned (.bool true) ∧ Below w.heap.size w w' := by
  obtain ⟨a, rfl, ha⟩ : ∃ a : Nat, o = a ∧ a ≤ 255 := by have := u8_range ho; exact ⟨o.toNat, by omega, by omega⟩
  have HE := Lib.hid he
  clear he ho
  go_enter Tryd.func9, Tryd.ntmps9
  go_wp2
  go_loopw [4] (fun i wr => ∃ k : Nat, i = .int .i64 k ∧ k ≤ 256 ∧ Hid (Four wr w.heap.size (fun n => arC a n k)) ∧ Hid (Below w.heap.size w wr)) (fun i _ => 256 - (intOf i).toNat)
  case atStart => exact ⟨0, rfl, by omega, heap_alloc_new _ _, (Below.refl _ _).alloc (Nat.le_refl _) _⟩
  case round =>
    obtain ⟨k, rfl, hk, HF, HB⟩ := hrel
    by_cases hlt : k < 256
    · have hk1 : (k : Int) < 256 := by omega
      have hu := u8_of hlt
      obtain ⟨m, hm⟩ : ∃ m, (a + k) % 256 = m := ⟨_, rfl⟩
      have hml : m ≤ 255 := by omega
      have hmi : ((a : Int) + (k : Int)) % 256 = (m : Int) := by omega
      have hstep : ∀ n, arC a n (k + 1) = arC a n k + (if m < 22 && arityN m == n then 1 else 0) := fun n => by rw [← hm]; rfl
      have HS := Lib.hid hstep
      clear hstep hm
      go_wp2_with fail
      refine (arity_two m hml _ (HE.out.below HB.out)).mono ?_
      rintro e w1 ⟨rfl, rfl⟩
      by_cases hm22 : m < 22
      · have hE : arE m = 0 := by unfold arE; rw [if_pos hm22]
        have hA : arA m = arityN m := by unfold arA; rw [if_pos hm22]
        rw [hE, hA]
        obtain ⟨n, hn⟩ : ∃ n, arityN m = n := ⟨_, rfl⟩
        have hn4 : n < 4 := by have := arityN_cases m; omega
        have hx := HF.out.cell n hn4
        have hfz := HF.out.free n
        have hle := arC_le a n k
        have HF2 : Hid (Four (wr.setCell ⟨w.heap.size, n, none⟩ (.int .i64 ((arC a n k : Int) + 1))) w.heap.size (fun n => arC a n (k + 1))) := HF.out.set n hn4 _ (by
          show _ = ((arC a n (k + 1) : Nat) : Int)
          rw [HS.out, hn]; simp [hm22]) (fun j hj => by
          show arC a j (k + 1) = arC a j k
          rw [HS.out, hn, show (n == j) = false by simpa using fun h => hj h.symm]; simp)
        have HB2 : Hid (Below w.heap.size w (wr.setCell ⟨w.heap.size, n, none⟩ (.int .i64 ((arC a n k : Int) + 1)))) := HB.out.setCell (p := ⟨w.heap.size, n, none⟩) (Nat.le_refl _) _
        rw [hn]
        obtain ⟨C, hC⟩ : ∃ C, arC a n k = C := ⟨_, rfl⟩
        have hx2 : wr.cell? ⟨w.heap.size, n, none⟩ = some (.int .i64 (C : Int)) := by rw [← hC]; exact hx
        rw [hC] at HF2 HB2 hle
        have hn1 : (n : Int) < 4 := by omega
        clear HF HB hx hE hA hC hn HS
        go_wp2
        go_roundw
        case rel => exact ⟨k + 1, by go_num, by omega, HF2, HB2⟩
        case measure => simp [intOf]; omega
      · have hE : arE m = 3 := by unfold arE; rw [if_neg hm22]
        have hA : arA m = 0 := by unfold arA; rw [if_neg hm22]
        rw [hE, hA]
        have HF2 : Hid (Four wr w.heap.size (fun n => arC a n (k + 1))) := by
          have : (fun n => arC a n (k + 1)) = fun n => arC a n k := funext fun n => by rw [HS.out]; simp [hm22]
          rw [this]; exact HF
        clear HF HS hE hA
        go_wp2
        go_roundw
        case rel => exact ⟨k + 1, by go_num, by omega, HF2, HB⟩
        case measure => simp [intOf]; omega
    · obtain rfl : k = 256 := by omega
      have h0 := HF.out.cell 0 (by omega)
      have h1 := HF.out.cell 1 (by omega)
      have h2 := HF.out.cell 2 (by omega)
      have h3 := HF.out.cell 3 (by omega)
      obtain ⟨e0, e1, e2, e3⟩ := arC_all a ha
      simp only [e0, e1, e2, e3] at h0 h1 h2 h3
      have heq := eq_self wr
      clear HF e0 e1 e2 e3
      go_wp2_with fail
      refine (lawKnown_is _ (HE.out.below HB.out)).mono ?_
      rintro e w3 ⟨rfl, hB⟩
      have HB3 := Lib.hid (HB.out.trans (hB.mono HB.out.size))
      clear hB HB
      go_wp2
      go_ret
      exact ⟨rfl, HB3.out⟩
end Go.Proofs.YtnhcbnjibkfnnaaDoor
