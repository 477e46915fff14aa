/-
  CopyLists and CopyFormula.
-/
import Derived.Test.YtbljkbdbiceokaaCnfE
namespace Go.Proofs.Ytbljkbdbiceokaa
open Go.RowKit Go.Lib
open Go.RowKit (Below)

theorem Built.next {w wo wr w1 : World} {B : Nat} {v v' : Value} {M : List (List Int)} {z : List Int} {vs : List Value} {a1 : Option Addr} {d1 : Nat} {o : Obj} (hB : B ≤ wo.heap.size) (h0 : Below B w wo) (HB : Below wo.heap.size wo wr)
    (hI : IntsR wr a1 z) (hpp : (∀ p, a1 = some p → wo.heap.size ≤ p.block ∧ p.block < wr.heap.size) ∧ z.length ≤ d1 ∧ d1 ≤ maxLen)
    (h1 : wr.ownsRow B 23 1 v M.length vs) (h1o : v.ownBlock = none ∨ ∃ g, v.ownBlock = some g ∧ B ≤ g ∧ g < wo.heap.size) (h2 : ∀ (j : Nat) (z : List Int), M[j]? = some z → ∃ u : Value, vs[j]? = some u ∧ InRow wr B v u z)
    (hown : w1.ownsRow B 23 1 v' (M.length + 1) (vs ++ [.slice a1 z.length d1])) (hg : (wr.alloc o).grownBy w1 v.ownBlock) (hat : v'.ownBlock = v.ownBlock ∨ v'.ownBlock = some (wr.alloc o).heap.size) :
    Built w1 B v' (M ++ [z]) ∧ Below B w w1 := by
  obtain ⟨hp, hcc⟩ := hpp
  have hs2 := HB.size
  have hnp : ∀ p : Addr, a1 = some p → v.ownBlock ≠ some p.block := by
    intro p hp' e
    have := hp p hp'
    rcases h1o with h | ⟨g, h, _, h4⟩
    · rw [h] at e; cases e
    · rw [h] at e; injection e with e; omega
  refine ⟨Built.more (w := wr) (w0 := wr.alloc o) h2 h1 (boxed _ _) hg hat hown hI (fun p e => ⟨by have := (hp p e).1; omega, (hp p e).2, hnp p e⟩) hcc, ?_⟩
  refine (h0.trans (HB.mono (by omega))).trans ((boxed wr o).mono (by omega) |>.grown hg (by simp; omega) fun j e => ?_)
  rcases h1o with h | ⟨g, h, h3, _⟩
  · rw [h] at e; cases e
  · rw [h] at e; injection e with e; omega
theorem Built.split {wo wr : World} {B : Nat} {v : Value} {M : List (List Int)} (h : Built wo B v M) (HB : Below wo.heap.size wo wr) :
    ∃ vs : List Value, wr.ownsRow B 23 1 v M.length vs ∧ (v.ownBlock = none ∨ ∃ g, v.ownBlock = some g ∧ B ≤ g ∧ g < wo.heap.size) ∧ ∀ (j : Nat) (z : List Int), M[j]? = some z → ∃ u : Value, vs[j]? = some u ∧ InRow wr B v u z := by
  obtain ⟨vs, h1, h2⟩ := h.below HB
  obtain ⟨us, h3, _⟩ := h
  refine ⟨vs, h1, ?_, h2⟩
  cases hv : v.ownBlock with
  | none => exact .inl rfl
  | some g => exact .inr ⟨g, rfl, World.ownsRow.lt h3 g hv⟩

set_option maxHeartbeats 1000000 in
theorem copyLists_any (a : Option Addr) (c : Nat) (zss : List (List Int)) (w : World) (hm : zss.length ≤ 1000) (hA : ∀ z ∈ zss, z.length ≤ 1000) (h : RowsR .i64 w a zss) :
    Calls Try.prog 17 #[.slice a zss.length c] w fun e w' => ∃ v, e = .returned v ∧ Built w' w.heap.size v zss ∧ Below w.heap.size w w' := by
  obtain ⟨j0, hj, hy0, hy1, hy2⟩ := info_parts Try.info23
  have HA := Lib.hid hA
  have HR := Lib.hid h
  clear hA h
  go_enter Try.func17, Try.ntmps17
  go_wp2
  go_loopw [3, 4] (fun v i wr => ∃ k : Nat, k ≤ zss.length ∧ i = .int .i64 k ∧ Hid (Built wr w.heap.size v (zss.take k)) ∧ Hid (Below w.heap.size w wr)) (fun _ i _ => zss.length - (intOf i).toNat)
  case atStart => exact ⟨0, Nat.zero_le _, rfl, Built.nil _ _, Below.refl _ _⟩
  case round =>
    obtain ⟨k, hk, rfl, HO, HB⟩ := hrel
    by_cases hlt : k < zss.length
    · obtain ⟨b, off, aj, cj, z, rfl, hbs, HZ, hc, HK⟩ := (HR.out.below HB.out).at hlt
      have hzl := HA.out z (List.mem_of_getElem? HZ.out)
      have hkl : (zss.take k).length = k := by rw [List.length_take]; omega
      go_wp2_with fail
      refine (copyInts_any aj cj z _ (by omega) HK.out).mono ?_
      rintro e w2 ⟨u, rfl, hO, hB2⟩
      obtain ⟨a2, c2, rfl, hI, hp⟩ := hO.parts
      obtain ⟨vs, h1, h1o, h2⟩ := HO.out.split hB2
      have HX := fun o v' w3 => Lib.hid (Built.next (w1 := w3) (v' := v') (d1 := c2) (o := o) HB.out.size HB.out hB2 hI hp h1 h1o h2)
      have hs2 : w.heap.size ≤ w2.heap.size := Nat.le_trans HB.out.size hB2.size
      rw [hkl] at h1
      have H1 := Lib.hid h1
      have HKL := Lib.hid hkl
      clear hO hI hp hB2 h1 h1o h2 hc hkl
      go_wp2_with (at_builtin; refine wpList_append_own_at _ rfl _ _ 24 rfl w.heap.size 23 j0 (.slice none 0 0) 1 24 Try.underlying24 hj hy0 hy1 hy2 rfl (by decide) _ _ _ rfl (World.ownsRow.alloc H1.out _) ⟨w2.heap.size, 0, none⟩ 1 1 [.slice a2 z.length c2] rfl rfl (one_new (by rfl)) one_slice ?d3 ?d4 ?d5 ?_)
      case d3 => unfold maxLen; omega
      case d4 => omega
      case d5 => simp; omega
      intro v' w3 hown' hgrow _ hat
      obtain ⟨hN, hB3⟩ := (HX _ _ _).out (by rw [HKL.out]; exact hown') hgrow (by simpa using hat)
      have HN2 : Hid (Built w3 w.heap.size v' (zss.take (k + 1))) := by unfold Hid; rw [take_snoc _ _ _ HZ.out]; exact hN
      have HB3 := Lib.hid hB3
      clear hown' hgrow hat hN HX hB3 H1
      go_wp2
      go_roundw
      case rel => exact ⟨k + 1, by omega, by go_num, HN2, HB3⟩
      case measure => simp [intOf]; omega
    · obtain rfl : k = zss.length := by omega
      have hO := HO.out
      rw [List.take_length] at hO
      have HO2 := Lib.hid hO
      clear hO
      go_wp2
      go_ret
      exact ⟨_, rfl, HO2.out, HB.out⟩

theorem Built.weaken {w : World} {B B' : Nat} {v : Value} {zss : List (List Int)} (h : Built w B v zss) (hB : B' ≤ B) : Built w B' v zss := by
  obtain ⟨vs, ⟨hl, h1⟩, h2⟩ := h
  refine ⟨vs, ⟨hl, ?_⟩, fun j z hz => ?_⟩
  · rcases h1 with h1 | ⟨g, cap, cur, e1, e2, e3⟩
    · exact .inl h1
    · exact .inr ⟨g, cap, cur, e1, by omega, e3⟩
  · obtain ⟨u, hu, a, c, e, hi, hp, hcc⟩ := h2 j z hz
    exact ⟨u, hu, a, c, e, hi, (fun p hp' => ⟨by have := (hp p hp').1; omega, (hp p hp').2⟩), hcc⟩

set_option maxHeartbeats 1000000 in
theorem copyFormula_any (n : Int) (a : Option Addr) (c : Nat) (zss : List (List Int)) (w : World) (hm : zss.length ≤ 1000) (hA : ∀ z ∈ zss, z.length ≤ 1000) (h : RowsR .i64 w a zss) :
    Calls Try.prog 27 #[.agg #[.int .i64 n, .slice a zss.length c]] w fun e w' => ∃ a' c', e = .returned (.agg #[.int .i64 n, .slice a' zss.length c']) ∧ Built w' w.heap.size (.slice a' zss.length c') zss ∧ Below w.heap.size w w' := by
  have HA := Lib.hid hA
  have HR := Lib.hid ((h.alloc (.cells #[.int .i64 n, .slice a zss.length c] 26)).alloc (.cells #[.int .i64 0, .slice none 0 0] 26))
  have HB := Lib.hid ((boxed w (.cells #[.int .i64 n, .slice a zss.length c] 26)).alloc (by simp) (.cells #[.int .i64 0, .slice none 0 0] 26))
  have HF := Lib.hid ((Two.new w (.int .i64 n) (.slice a zss.length c)).alloc (.cells #[.int .i64 0, .slice none 0 0] 26))
  have HG : Hid (Two ((w.alloc (.cells #[.int .i64 n, .slice a zss.length c] 26)).alloc (.cells #[.int .i64 0, .slice none 0 0] 26)) (w.heap.size + 1) (.int .i64 0) (.slice none 0 0)) := by
    have := Two.new (w.alloc (.cells #[.int .i64 n, .slice a zss.length c] 26)) (.int .i64 0) (.slice none 0 0); unfold Hid; simpa using this
  clear hA h
  go_enter Try.func27, Try.ntmps27
  go_wp2_with fail
  refine (copyLists_any _ _ zss _ hm HA.out HR.out).mono ?_
  rintro e w1 ⟨v, rfl, hbt, hB1⟩
  obtain ⟨a2, c2, rfl, _, _, _, _⟩ := hbt.rows
  have hF1 := HF.out.below hB1 (by simp; omega)
  have hG1 := HG.out.below hB1 (by simp)
  have hF2 := hF1.set1 (.slice a2 zss.length c2)
  have hG2 := hG1.far (p := ⟨w.heap.size, 1, none⟩) (by simp) (.slice a2 zss.length c2)
  have hG3 := (hG2.set0 (.int .i64 n)).set1 (.slice a2 zss.length c2)
  have hB2 := (((HB.out.trans (hB1.mono (by simp; omega))).setCell (p := ⟨w.heap.size, 1, none⟩) (Nat.le_refl _) (.slice a2 zss.length c2)).setCell (p := ⟨w.heap.size + 1, 0, none⟩) (by simp) (.int .i64 n)).setCell (p := ⟨w.heap.size + 1, 1, none⟩) (by simp) (.slice a2 zss.length c2)
  have hbt2 := ((hbt.setCell (p := ⟨w.heap.size, 1, none⟩) (by simp; omega) (.slice a2 zss.length c2)).setCell (p := ⟨w.heap.size + 1, 0, none⟩) (by simp) (.int .i64 n)).setCell (p := ⟨w.heap.size + 1, 1, none⟩) (by simp) (.slice a2 zss.length c2)
  have c1 := hF1.c1
  have f1 := hF1.free 1
  have d0 := hF2.c0
  have d1 := hF2.c1
  have g0 := hG2.c0
  have g1 := hG2.c1
  have k0 := hG2.free 0
  have k1 := hG2.free 1
  have s0 := hG3.c0
  have s1 := hG3.c1
  have HB2 := Lib.hid hB2
  have HBT := Lib.hid hbt2
  clear hF1 hG1 hF2 hG2 hG3 hB2 hbt2 hB1 hbt
  go_wp2
  exact bodyPost_ret (v := .agg #[.int .i64 n, .slice a2 zss.length c2]) (by simp [results, Try.results27, go_sem, s0, s1]) rfl ⟨_, _, rfl, HBT.out.weaken (by simp; omega), HB2.out⟩
theorem copyFormula_is {zss : List (List Int)} {l : Nat} (hl : zss.length = l) (n : Int) (a : Option Addr) (c : Nat) (w : World) (hm : l ≤ 1000) (hA : ∀ z ∈ zss, z.length ≤ 1000) (h : RowsR .i64 w a zss) :
    Calls Try.prog 27 #[.agg #[.int .i64 n, .slice a l c]] w fun e w' => ∃ a' c', e = .returned (.agg #[.int .i64 n, .slice a' l c']) ∧ Built w' w.heap.size (.slice a' l c') zss ∧ Below w.heap.size w w' := by
  subst hl; exact copyFormula_any n a c zss w hm hA h
end Go.Proofs.Ytbljkbdbiceokaa
