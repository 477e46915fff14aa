/-
  WordAll's walk.
-/
import Derived.Test.YtldcekejbnhloaaDoorWWordTrims
namespace Go.Proofs.YtldcekejbnhloaaDoor
open Go.RowKit Go.Lib Ops Words
open Go.RowKit (Below)

theorem Words.NumsR.take {w : World} {g o : Nat} {ns : List Nat} (h : NumsR w (some ⟨g, o, none⟩) ns) (k : Nat) : NumsR w (some ⟨g, o, none⟩) (ns.take k) := by
  rcases h with h | ⟨b, off, ha, hs, hc⟩
  · left; rw [List.length_take]; omega
  · injection ha with ha; injection ha with h1 h2; subst h1; subst h2
    refine .inr ⟨g, o, rfl, hs, fun j hj => ?_⟩
    have hj1 : j < k := by simp at hj; omega
    rw [hc j (by simp at hj; omega)]; simp [List.getD, hj1]
theorem apply_len {o : Nat} {n : Int} {ns : List Nat} {l v : Nat} {f : Int} (hl : ns.length = l) (hv : apV o n ns = v) (hf : apE o n ns.length = f) (ho : o ≤ 255) (hn : ∀ x ∈ ns, x < 18446744073709551616) (hm : l ≤ maxLen) (ad : Option Addr) (c : Nat) (w : World) (hN : NumsR w ad ns) (he : OpEnv w) :
    Calls Tryd.prog 13 #[.int .u8 (o : Int), .int .i64 n, .slice ad l c] w fun e w' => e = .returned (.tuple #[.int .u64 (v : Int), .int .i64 f]) ∧ Below w.heap.size w w' := by
  subst hl hv hf; exact apply_any o ho n ns hn hm ad c w hN he
theorem rapply_len {o : Nat} {n : Int} {ns : List Nat} {l v : Nat} {f : Int} (hl : ns.length = l) (hv : apV o n ns = v) (hf : apE o n ns.length = f) (ho : o ≤ 255) (hn : ∀ x ∈ ns, x < 18446744073709551616) (hm : l ≤ maxLen) (ad : Option Addr) (c : Nat) (w : World) (hN : NumsR w ad ns) :
    Calls Tryd.prog 15 #[.int .u8 (o : Int), .int .i64 n, .slice ad l c] w fun e w' => e = .returned (.tuple #[.int .u64 (v : Int), .int .i64 f]) ∧ w = w' := by
  subst hl hv hf; exact rapply_any o ho n ns hn hm ad c w hN

set_option maxRecDepth 20000 in
set_option maxHeartbeats 4000000 in
theorem wordAll_walk (w : World) (x : Int) (hx : (Lit.int .u8 x).wf = true) (a : Int) (ha : (Lit.int .u64 a).wf = true) (b : Int) (hb : (Lit.int .u64 b).wf = true) (c : Int) (hc : (Lit.int .u64 c).wf = true) (he : Env w) :
    Calls Tryd.prog 4 #[.int .u8 x, .int .u64 a, .int .u64 b, .int .u64 c] w fun e w' => e = .returned (.bool true) ∧ Below w.heap.size w w' := by
  obtain ⟨v, rfl, hv⟩ : ∃ v : Nat, x = v ∧ v ≤ 255 := by have := u8_range hx; exact ⟨x.toNat, by omega, by omega⟩
  obtain ⟨p, rfl, hp⟩ := u64_nat ha
  obtain ⟨q, rfl, hq⟩ := u64_nat hb
  obtain ⟨r, rfl, hr⟩ := u64_nat hc
  have hmem : ∀ k, ∀ y ∈ [p, q, r].take k, y < 18446744073709551616 := fun k y hy => by
    have := List.mem_of_mem_take hy
    simp at this
    rcases this with rfl | rfl | rfl <;> assumption
  have hw : IntKind.i64.wrap (v : Int) = v := i64_small v (by omega) (by omega)
  have hw2 : IntKind.i64.wrap (1 + (v : Int) % 64) = ((wid v : Nat) : Int) := by rw [i64_small _ (by omega) (by omega)]; unfold wid; omega
  have hw3 : IntKind.i64.wrap ((v : Int).tmod 64) = (v : Int) % 64 := by rw [Int.tmod_eq_emod_of_nonneg (by omega)]; exact i64_small _ (by omega) (by omega)
  have hw4 : (v : Int).tmod 64 = (v : Int) % 64 := Int.tmod_eq_emod_of_nonneg (by omega)
  have hw5 : 1 + (v : Int) % 64 = ((wid v : Nat) : Int) := by unfold wid; omega
  obtain ⟨W, hW⟩ : ∃ k, wid v = k := ⟨_, rfl⟩
  have HA : Hid (Below w.heap.size w (w.alloc (.cells #[.int .u64 (p : Int), .int .u64 (q : Int), .int .u64 (r : Int)] 24))) := (Below.refl _ _).alloc (Nat.le_refl _) _
  have HN : Hid (NumsR (w.alloc (.cells #[.int .u64 (p : Int), .int .u64 (q : Int), .int .u64 (r : Int)] 24)) (some ⟨w.heap.size, 0, none⟩) [p, q, r]) := NumsR.lit w _ _ _ rfl (by simp)
  have HE := Lib.hid he
  have HM := Lib.hid hmem
  rw [hW] at hw2 hw5
  clear hW hp hq hr ha hb hc hx he hmem
  go_enter Tryd.func4, Tryd.ntmps4
  go_wp2
  obtain ⟨w1, hw1⟩ : ∃ w1, w.alloc (.cells #[.int .u64 (p : Int), .int .u64 (q : Int), .int .u64 (r : Int)] 24) = w1 := ⟨_, rfl⟩
  rw [hw1] at HA HN ⊢
  clear hw1
  go_loopw [11] (fun o wr => ∃ k : Nat, o = .int .u8 k ∧ 2 ≤ k ∧ k ≤ 22 ∧ Hid (Below w1.heap.size w1 wr)) (fun o _ => 22 - (intOf o).toNat)
  case atStart => exact ⟨2, rfl, by omega, by omega, Below.refl _ _⟩
  case round =>
    obtain ⟨k, rfl, hk2, hk, HB⟩ := hrel
    by_cases hlt : k < 22
    · have hk1 : (k : Int) ≤ 21 := by omega
      go_wp2
      obtain ⟨wo, rfl⟩ : ∃ wo : World, wo = wr := ⟨wr, rfl⟩
      go_loopw [12] (fun n wr => ∃ m : Nat, n = .int .i64 m ∧ 1 ≤ m ∧ m ≤ 4 ∧ Hid (Below w1.heap.size w1 wr)) (fun n _ => 4 - (intOf n).toNat)
      case atStart => exact ⟨1, rfl, by omega, by omega, HB⟩
      case round =>
        clear HB
        obtain ⟨m, rfl, hm1, hm, HB⟩ := hrel
        by_cases hlm : m < 4
        · have hm3 : (m : Int) ≤ 3 := by omega
          have hm0 : (0 : Int) ≤ (m : Int) := by omega
          have hm4 : m ≤ 3 := by omega
          have hle : ([p, q, r].take m).length = m := by simp; omega
          obtain ⟨V, hV⟩ : ∃ V, apV k W ([p, q, r].take m) = V := ⟨_, rfl⟩
          obtain ⟨F, hF⟩ : ∃ V, apE k W ([p, q, r].take m).length = V := ⟨_, rfl⟩
          have K1 := Lib.hid (apply_len hle hV hF (by omega) (HM.out m) (by unfold maxLen; omega) (some ⟨w.heap.size, 0, none⟩) 3 wr (HN.out.below HB.out |>.take m) (HE.out.below (HA.out.trans (HB.out.mono HA.out.size))))
          have K2 : Hid (∀ W', Below w1.heap.size w1 W' → Calls Tryd.prog 15 #[.int .u8 (k : Int), .int .i64 (W : Int), .slice (some ⟨w.heap.size, 0, none⟩) m 3] W' fun e w' => e = .returned (.tuple #[.int .u64 (V : Int), .int .i64 F]) ∧ W' = w') := fun W' hb => rapply_len hle hV hF (by omega) (HM.out m) (by unfold maxLen; omega) (some ⟨w.heap.size, 0, none⟩) 3 W' (HN.out.below hb |>.take m)
          clear hV hF hle
          go_wp2_with (first | (go_at_call 13; refine K1.out.mono ?_; rintro e w2 ⟨rfl, hB⟩; have HB2 := Lib.hid (HB.out.trans (hB.mono HB.out.size)); clear hB) | (go_at_call 15; refine (K2.out _ HB2.out).mono ?_; rintro e w' ⟨rfl, rfl⟩))
          go_roundw
          case rel => exact ⟨m + 1, by go_num, by omega, by omega, HB2⟩
          case measure => simp [intOf]; omega
        · obtain rfl : m = 4 := by omega
          have hu : IntKind.u8.wrap ((k : Int) + 1) = (k : Int) + 1 := by simp [IntKind.wrap, IntKind.bits, IntKind.signed]; omega
          have hu2 : ((k : Int) + 1) % 256 = (k : Int) + 1 := by omega
          go_wp2
          go_roundw
          case rel => exact ⟨k + 1, by go_num, by omega, by omega, HB⟩
          case measure => simp [intOf]; omega
    · obtain rfl : k = 22 := by omega
      have hb2 := HA.out.trans (HB.out.mono HA.out.size)
      have KN := Lib.hid (Words.known_any wr (HE.out.below hb2))
      have HB2 := Lib.hid hb2
      clear hb2
      go_wp2_with (go_at_call 12; refine KN.out.mono ?_; rintro e w3 ⟨rfl, hB⟩; have HB3 := Lib.hid (HB2.out.trans (hB.mono HB2.out.size)); clear hB)
      go_ret
      exact ⟨rfl, HB3.out⟩
end Go.Proofs.YtldcekejbnhloaaDoor
