/-
  The reference's header.
-/
import Derived.Test.YtkannkalbhmlcaaDoorDimZ
import Derived.Test.YtkannkalbhmlcaaDoorDimG
namespace Go.Proofs.YtkannkalbhmlcaaDoor
open Go.RowKit Go.Lib
open Go.RowKit (Below)

abbrev CC : Nat := 1099511627776
def RHead (w : World) (ws : List Word) (e : Ending) (w' : World) : Prop :=
  (∃ x, headW 1099511627776 ws = .error x ∧ x ≠ 0 ∧ e = .returned (.tuple #[.int .i64 0, .int .i64 0, .int .i64 x]) ∧ w = w') ∨
  (∃ v k, headW 1099511627776 ws = .ok (v, k) ∧ e = .returned (.tuple #[.int .i64 v, .int .i64 k, .int .i64 0]) ∧ w = w')
theorem RHead.bad {w : World} {ws : List Word} {x : Int} (h : headW 1099511627776 ws = .error x) (hx : x ≠ 0) : RHead w ws (.returned (.tuple #[.int .i64 0, .int .i64 0, .int .i64 x])) w := .inl ⟨x, h, hx, rfl, rfl⟩
theorem RHead.good {w : World} {ws : List Word} {v k : Int} (h : headW 1099511627776 ws = .ok (v, k)) : RHead w ws (.returned (.tuple #[.int .i64 v, .int .i64 k, .int .i64 0])) w := .inr ⟨v, k, h, rfl, rfl⟩

set_option maxRecDepth 100000 in
set_option maxHeartbeats 4000000 in
theorem refHeader_four (a : Option Addr) (c : Nat) (bs : List ByteArray) (w : World) (h4 : bs.length ≠ 4) :
    Calls Tryd.prog 33 #[.slice a bs.length c] w (RHead w (bs.map W8)) := by
  have HP := Lib.hid (headW_four (c := 1099511627776) (ws := bs.map W8) (by simpa using h4))
  have e1 : ((bs.length : Int) != 4) = true := by simp; omega
  clear h4
  go_enter Tryd.func33, Tryd.ntmps33
  go_wp2
  exact bodyPost_ret (v := .tuple #[.int .i64 0, .int .i64 0, .int .i64 4]) (by simp [results, Tryd.results33, go_sem]) rfl (RHead.bad HP.out (by omega))
set_option maxRecDepth 100000 in
set_option maxHeartbeats 8000000 in
theorem refHeader_any (a : Option Addr) (c : Nat) (p q s t : ByteArray) (w : World) (hs : s.size ≤ 65536) (ht : t.size ≤ 65536) (hW : WordsAt w a [p, q, s, t]) :
    Calls Tryd.prog 33 #[.slice a 4 c] w (RHead w [W8 p, W8 q, W8 s, W8 t]) := by
  obtain ⟨A, cur, fr, rfl, hh, hc⟩ : ∃ A cur fr, a = some ⟨A, 0, none⟩ ∧ w.heap[A]? = some (.cells cur 9 fr) ∧ ∀ j, j < 4 → cur[j]? = some (.string ([p, q, s, t].getD j ⟨#[]⟩)) := by
    rcases hW with h | h
    · simp at h
    · exact h
  have w0 : w.cell? ⟨A, 0, none⟩ = some (.string p) := heap_cell hh (hc 0 (by omega))
  have w1 : w.cell? ⟨A, 1, none⟩ = some (.string q) := heap_cell hh (hc 1 (by omega))
  have w2 : w.cell? ⟨A, 2, none⟩ = some (.string s) := heap_cell hh (hc 2 (by omega))
  have w3 : w.cell? ⟨A, 3, none⟩ = some (.string t) := heap_cell hh (hc 3 (by omega))
  clear hh hc
  by_cases hp : p.toList = [112]
  · have hp2 : (!p.toList == [112]) = false := by simp [hp]
    by_cases hq : q.toList = [99, 110, 102]
    · have hq2 : (!q.toList == [99, 110, 102]) = false := by simp [hq]
      have HN := Lib.hid (headW_nums (c := 1099511627776) (p := W8 p) (q := W8 q) (a := W8 s) (b := W8 t) (by rw [← toList_w8]; exact hp) (by rw [← toList_w8]; exact hq))
      clear hp hq
      obtain ⟨x, hx⟩ : ∃ x, numV 1099511627776 (W8 s) = x := ⟨_, rfl⟩
      obtain ⟨y, hy⟩ : ∃ y, numV 1099511627776 (W8 t) = y := ⟨_, rfl⟩
      obtain ⟨kx, hkx⟩ : ∃ x, numK 1099511627776 (W8 s) = x := ⟨_, rfl⟩
      obtain ⟨ky, hky⟩ : ∃ y, numK 1099511627776 (W8 t) = y := ⟨_, rfl⟩
      rw [hx, hy, hkx, hky] at HN
      have HX := Lib.hid hx
      have HY := Lib.hid hy
      have HKX := Lib.hid hkx
      have HKY := Lib.hid hky
      clear hx hy hkx hky
      have h4 : (kx = false ∨ ky = false ∨ x < 0 ∨ y < 0) → RHead w [W8 p, W8 q, W8 s, W8 t] (.returned (.tuple #[.int .i64 0, .int .i64 0, .int .i64 4])) w := fun h => RHead.bad (by
        rw [HN.out]
        by_cases hk : kx = true ∧ ky = true
        · rw [if_pos hk, if_pos (by rcases h with h | h | h | h; (· rw [hk.1] at h; cases h); (· rw [hk.2] at h; cases h); (· exact .inl h); (· exact .inr h))]
        · rw [if_neg hk]) (by omega)
      have h3 : (kx = true ∧ ky = true ∧ 0 ≤ x ∧ 0 ≤ y ∧ 1048576 < x) → RHead w [W8 p, W8 q, W8 s, W8 t] (.returned (.tuple #[.int .i64 0, .int .i64 0, .int .i64 3])) w := fun h => RHead.bad (by
        rw [HN.out, if_pos ⟨h.1, h.2.1⟩, if_neg (by omega), if_pos (by omega)]) (by omega)
      have h5 : (kx = true ∧ ky = true ∧ 0 ≤ x ∧ 0 ≤ y ∧ x ≤ 1048576 ∧ 1048576 < y) → RHead w [W8 p, W8 q, W8 s, W8 t] (.returned (.tuple #[.int .i64 0, .int .i64 0, .int .i64 5])) w := fun h => RHead.bad (by
        rw [HN.out, if_pos ⟨h.1, h.2.1⟩, if_neg (by omega), if_neg (by omega), if_pos (by omega)]) (by omega)
      have h0 : (kx = true ∧ ky = true ∧ 0 ≤ x ∧ 0 ≤ y ∧ x ≤ 1048576 ∧ y ≤ 1048576) → RHead w [W8 p, W8 q, W8 s, W8 t] (.returned (.tuple #[.int .i64 x, .int .i64 y, .int .i64 0])) w := fun h => RHead.good (by
        rw [HN.out, if_pos ⟨h.1, h.2.1⟩, if_neg (by omega), if_neg (by omega), if_neg (by omega)])
      have H4 := Lib.hid h4
      have H3 := Lib.hid h3
      have H5 := Lib.hid h5
      have H0 := Lib.hid h0
      clear h4 h3 h5 h0 HN
      cases kx
      all_goals cases ky
      all_goals
        go_enter Tryd.func33, Tryd.ntmps33
        go_wp2_with fail
        refine (refNumber_any s w hs).mono ?_
        rintro e wa ⟨he, rfl⟩
        unfold NumPost at he
        rw [HX.out, HKX.out] at he
        subst he
        go_wp2_with fail
        refine (refNumber_any t w ht).mono ?_
        rintro e wb ⟨he, rfl⟩
        unfold NumPost at he
        rw [HY.out, HKY.out] at he
        subst he
        clear w0 w1 w2 w3
        go_wp2
      all_goals
        first
          | (refine bodyPost_ret (v := .tuple #[.int .i64 0, .int .i64 0, .int .i64 4]) ?_ rfl (H4.out ?_) <;> first | omega | (simp [results, Tryd.results33, go_sem]; done))
          | (refine bodyPost_ret (v := .tuple #[.int .i64 0, .int .i64 0, .int .i64 4]) ?_ rfl (H4.out (.inl rfl)) <;> (simp [results, Tryd.results33, go_sem]; done))
          | (refine bodyPost_ret (v := .tuple #[.int .i64 0, .int .i64 0, .int .i64 4]) ?_ rfl (H4.out (.inr (.inl rfl))) <;> (simp [results, Tryd.results33, go_sem]; done))
          | (refine bodyPost_ret (v := .tuple #[.int .i64 0, .int .i64 0, .int .i64 3]) ?_ rfl (H3.out ?_) <;> first | omega | (refine ⟨trivial, trivial, ?_⟩; omega) | (refine ⟨rfl, rfl, ?_⟩; omega) | (simp [results, Tryd.results33, go_sem]; done))
          | (refine bodyPost_ret (v := .tuple #[.int .i64 0, .int .i64 0, .int .i64 5]) ?_ rfl (H5.out ?_) <;> first | omega | (refine ⟨trivial, trivial, ?_⟩; omega) | (refine ⟨rfl, rfl, ?_⟩; omega) | (simp [results, Tryd.results33, go_sem]; done))
          | (refine bodyPost_ret (v := .tuple #[.int .i64 x, .int .i64 y, .int .i64 0]) ?_ rfl (H0.out ?_) <;> first | omega | (refine ⟨trivial, trivial, ?_⟩; omega) | (refine ⟨rfl, rfl, ?_⟩; omega) | (simp [results, Tryd.results33, go_sem]; done))
    · have HNE := hq
      have hq2 : (!q.toList == [99, 110, 102]) = true := by simp [hq]
      have HP := Lib.hid (headW_name (c := 1099511627776) (p := W8 p) (q := W8 q) (a := W8 s) (b := W8 t) (fun e => HNE (by rw [toList_w8]; exact e.2)))
      clear HNE
      go_enter Tryd.func33, Tryd.ntmps33
      go_wp2
      exact bodyPost_ret (v := .tuple #[.int .i64 0, .int .i64 0, .int .i64 4]) (by simp [results, Tryd.results33, go_sem]) rfl (RHead.bad HP.out (by omega))
  · have HNE := hp
    have hp2 : (!p.toList == [112]) = true := by simp [hp]
    have HP := Lib.hid (headW_name (c := 1099511627776) (p := W8 p) (q := W8 q) (a := W8 s) (b := W8 t) (fun e => HNE (by rw [toList_w8]; exact e.1)))
    clear HNE
    go_enter Tryd.func33, Tryd.ntmps33
    go_wp2
    exact bodyPost_ret (v := .tuple #[.int .i64 0, .int .i64 0, .int .i64 4]) (by simp [results, Tryd.results33, go_sem]) rfl (RHead.bad HP.out (by omega))
end Go.Proofs.YtkannkalbhmlcaaDoor
