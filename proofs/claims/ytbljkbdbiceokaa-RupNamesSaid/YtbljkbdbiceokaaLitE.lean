/-
  Slices of integers that the call itself made, and CopyInts.
-/
import Derived.Test.YtbljkbdbiceokaaLitD
namespace Go.Proofs.Ytbljkbdbiceokaa
open Go.RowKit Go.Lib

/-- A slice that a call made itself, in blocks from B on: its elements are zs. -/
def Own (w : World) (B : Nat) (v : Value) (zs : List Int) : Prop := w.ownsRow B 3 1 v zs.length (zs.map (Value.int .i64))
theorem Own.reads {w : World} {B : Nat} {v : Value} {zs : List Int} (h : Own w B v zs) : ∃ a c, v = .slice a zs.length c ∧ IntsR w a zs := by
  obtain ⟨_, h | ⟨g, cap, cur, rfl, hg, hh, hn, hc, hs, ht⟩⟩ := h
  · obtain ⟨rfl, h0⟩ := h
    exact ⟨none, 0, by rw [h0], .inl h0⟩
  · refine ⟨_, cap, rfl, .inr ⟨g, 0, rfl, (Array.getElem?_eq_some_iff.1 hh).1, fun j hj => ?_⟩⟩
    have hjc : j < cur.size := by omega
    have h1 : cur.toList[j]? = some (Value.int .i64 (zs.getD j 0)) := by
      have h2 := congrArg (fun l : List Value => l[j]?) ht
      simp only [List.getElem?_take] at h2
      rw [if_pos (by omega)] at h2
      rw [h2, List.getElem?_map, getD_some zs 0 j hj]; rfl
    simp only [World.cell?, hh]
    simp only [Array.getElem?_toList] at h1
    simp [h1]
theorem Try.info3 : (Try.prog.info? 3).map (fun i => (i.zero, i.size, i.bytes)) = some (some (.int .i64 0), 1, 8) := by kernel_rfl

theorem take_snoc {α : Type} (zs : List α) (k : Nat) (x : α) (hx : zs[k]? = some x) : zs.take (k + 1) = zs.take k ++ [x] := by
  obtain ⟨hk, rfl⟩ := List.getElem?_eq_some_iff.1 hx
  exact List.take_succ_eq_append_getElem hk

theorem Own.of {w1 : World} {B n : Nat} {v' : Value} {ys : List Value} {zs : List Int} (h : w1.ownsRow B 3 1 v' n ys) (hn : n = zs.length) (hy : ys = zs.map (Value.int .i64)) : Own w1 B v' zs := by
  subst hn hy; exact h
theorem Own.below {w wr w1 : World} {B : Nat} {v : Value} {zs : List Int} {o : Obj} (h : Own wr B v zs) (hb : Below B w wr) (hB : B ≤ wr.heap.size) (hg : (wr.alloc o).grownBy w1 v.ownBlock) : Below B w w1 :=
  (hb.alloc hB o).grown hg (by simp; omega) (fun k hk => (h.lt k hk).1)

set_option maxHeartbeats 400000 in
theorem copyInts_any (c : Option Addr) (cc : Nat) (zs : List Int) (w : World) (hm : zs.length * 8 ≤ 140737488351232) (h : IntsR w c zs) :
    Calls Try.prog 15 #[.slice c zs.length cc] w fun e w' => ∃ v, e = .returned v ∧ Own w' w.heap.size v zs ∧ Below w.heap.size w w' := by
  obtain ⟨i0, hi, hz0, hz1, hz2⟩ := info_parts Try.info3
  go_enter Try.func15, Try.ntmps15
  go_wp2
  go_loopw [3, 4] (fun v i wr => ∃ k : Nat, k ≤ zs.length ∧ i = .int .i64 k ∧ Own wr w.heap.size v (zs.take k) ∧ Below w.heap.size w wr) (fun _ i _ => zs.length - (intOf i).toNat)
  case atStart => exact ⟨0, Nat.zero_le _, rfl, World.ownsRow_nil _ _ _ _, Below.refl _ _⟩
  case round =>
    obtain ⟨k, hk, rfl, hown, hbel⟩ := hrel
    have hsz := hbel.size
    by_cases hlt : k < zs.length
    · obtain ⟨b, off, x, rfl, hx, hcell⟩ := (h.below hbel).at hlt
      clear h
      have hl : (zs.take k).length = k := by simp; omega
      have HO := Lib.hid hown
      have HB := Lib.hid hbel
      have HL := Lib.hid hl
      clear hown hbel hl
      go_wp2_with (at_builtin; refine wpList_append_own _ rfl _ _ 23 rfl w.heap.size 3 i0 (.int .i64 0) 1 8 Try.underlying23 hi hz0 hz1 hz2 rfl (by decide) _ _ _ rfl (World.ownsRow.alloc HO.out _) ⟨wr.heap.size, 0, none⟩ 1 1 [.int .i64 x] rfl rfl ?c1 ?c2 ?c3 ?c4 ?c5 ?_)
      case c1 =>
        intro j u hj
        match j, hj with
        | 0, hj => simp at hj; subst hj; simp [Addr.add]
      case c2 => intro u hu; simp at hu; subst hu; rfl
      case c3 => rw [HL.out]; unfold maxLen; omega
      case c4 => rw [HL.out]; omega
      case c5 => simp; omega
      intro v' w1 hown' hgrow _
      have R1 := Lib.hid (Own.of (zs := zs.take (k + 1)) hown' (by simp; omega) (by rw [take_snoc _ _ _ hx.out]; simp))
      have R2 := Lib.hid (Own.below HO.out HB.out hsz hgrow)
      clear hown' hgrow HO HB
      go_wp2
      go_roundw
      case rel => exact ⟨k + 1, by omega, by go_num, R1.out, R2.out⟩
      case measure => simp [intOf]; omega
    · have hkl : zs.take k = zs := List.take_of_length_le (by omega)
      rw [hkl] at hown
      clear hkl
      go_wp2
      go_ret
      exact ⟨_, rfl, hown, hbel⟩

end Go.Proofs.Ytbljkbdbiceokaa
