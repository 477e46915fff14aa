/-
  The reader: the header's line.
-/
import Derived.Test.YtkannkalbhmlcaaDoorDimF
namespace Go.Proofs.YtkannkalbhmlcaaDoor
open Go.RowKit Go.Lib
open Go.RowKit (Below)

def Good (r : Rd) : Prop := Fine r ∧ 0 ≤ r.ann ∧ r.ann ≤ 1048576 ∧ (r.cls.length : Int) ≤ r.ann ∧ r.cl.length ≤ 4096 ∧ (r.begun = false → r.cls = [])
theorem rd0_good : Good rd0 := by unfold Good rd0; exact ⟨rd0_fine, by simp⟩
theorem stepW_good {c : Nat} {r r' : Rd} {w : Word} (hr : Good r) (hb : r.begun = true) (h : stepW c r w = .ok r') : Good r' ∧ r'.begun = true := by
  have hF := stepW_fine hr.1 h
  obtain ⟨h1, h2, h3, h4, h5, h6⟩ := hr
  unfold stepW at h
  cases hn : num c w with
  | none => rw [hn] at h; simp at h
  | some x =>
    rw [hn] at h
    simp only at h
    split at h
    · simp at h
    · split at h
      · cases h
        exact ⟨⟨hF, h2, h3, by simp; omega, by simp, fun e => by simp [hb] at e⟩, hb⟩
      · split at h
        · simp at h
        · split at h
          · simp at h
          · cases h
            exact ⟨⟨hF, h2, h3, h4, by simp; omega, fun e => by simp [hb] at e⟩, hb⟩
theorem headW_good {c : Nat} {r : Rd} {ws : List Word} {v k : Int} (hr : Good r) (hb : r.begun = false) (h : headW c ws = .ok (v, k)) : Good { r with begun := true, vars := v, ann := k } := by
  obtain ⟨h1, h2, h3, h4, h5, h6⟩ := hr
  have := headW_fine h
  exact ⟨⟨this.1, this.2.1⟩, this.2.2.1, this.2.2.2, by simp [h6 hb]; omega, h5, fun e => by simp at e⟩

def HeadPost (w : World) (b : Nat) (r : Rd) (ws : List Word) (line err : Int) (e : Ending) (w' : World) : Prop :=
  Below b w w' ∧ StrKept w w' ∧ ((∃ x, headW 1048577 ws = .error x ∧ x ≠ 0 ∧ e = .returned (.int .i64 x) ∧ RdAt w' b r line err) ∨
    (∃ v k, headW 1048577 ws = .ok (v, k) ∧ e = .returned (.int .i64 0) ∧ RdAt w' b { r with begun := true, vars := v, ann := k } line err))
theorem headW_four {c : Nat} {ws : List Word} (h : ws.length ≠ 4) : headW c ws = .error 4 := by
  unfold headW
  split
  · simp at h
  · rfl
theorem headW_name {c : Nat} {p q a b : Word} (h : ¬ (p = [112] ∧ q = [99, 110, 102])) : headW c [p, q, a, b] = .error 4 := by
  unfold headW; simp only; rw [if_neg h]
theorem headW_nums {c : Nat} {p q a b : Word} (hp : p = [112]) (hq : q = [99, 110, 102]) : headW c [p, q, a, b] =
    if numK c a = true ∧ numK c b = true then (if numV c a < 0 ∨ numV c b < 0 then .error 4 else if 1048576 < numV c a then .error 3 else if 1048576 < numV c b then .error 5 else .ok (numV c a, numV c b)) else .error 4 := by
  unfold headW numK numV; simp only; rw [if_pos ⟨hp, hq⟩]
  cases num c a <;> cases num c b <;> simp
theorem RdIn.begin {w : World} {b : Nat} {r : Rd} {v u : Value} {line err : Int} (h : RdIn w b r v u line err) (x y : Int) :
    RdIn (((w.setCell ⟨b, 0, none⟩ (.bool true)).setCell ⟨b, 2, none⟩ (.int .i64 x)).setCell ⟨b, 1, none⟩ (.int .i64 y)) b { r with begun := true, vars := x, ann := y } v u line err := by
  refine h.other (by simp) (fun k hk => ?_) ?_ rfl rfl
  · rw [heap_ne _ _ _ _ _ hk, heap_ne _ _ _ _ _ hk, heap_ne _ _ _ _ _ hk]
  · exact heap_set _ _ 1 _ _ _ _ (heap_set _ _ 2 _ _ _ _ (heap_set _ _ 0 _ _ _ _ h.whole))
theorem RdIn.began {w : World} {b : Nat} {r : Rd} {v u : Value} {line err : Int} (h : RdIn w b r v u line err) (x y z : Value) :
    Below b w (((w.setCell ⟨b, 0, none⟩ x).setCell ⟨b, 2, none⟩ y).setCell ⟨b, 1, none⟩ z) ∧ StrKept w (((w.setCell ⟨b, 0, none⟩ x).setCell ⟨b, 2, none⟩ y).setCell ⟨b, 1, none⟩ z) :=
  ⟨((setBelow _ _ _ _).trans (setBelow _ _ _ _)).trans (setBelow _ _ _ _), ((StrKept.set h.whole).trans (StrKept.set (heap_set _ _ 0 _ _ _ _ h.whole))).trans (StrKept.set (heap_set _ _ 2 _ _ _ _ (heap_set _ _ 0 _ _ _ _ h.whole)))⟩

set_option maxRecDepth 100000 in
set_option maxHeartbeats 4000000 in
theorem header_four (a : Option Addr) (c : Nat) (bs : List ByteArray) (w : World) (b : Nat) (r : Rd) (line err : Int) (hR : RdAt w b r line err) (h4 : bs.length ≠ 4) :
    Calls Tryd.prog 44 #[.pointer (some ⟨b, 0, none⟩), .slice a bs.length c] w (HeadPost w b r (bs.map W8) line err) := by
  have HP := Lib.hid (headW_four (c := 1048577) (ws := bs.map W8) (by simpa using h4))
  have HR := Lib.hid hR
  have e1 : ((bs.length : Int) != 4) = true := by simp; omega
  clear h4 hR
  go_enter Tryd.func44, Tryd.ntmps44
  go_wp2
  go_ret
  exact ⟨Below.refl _ _, StrKept.refl _, .inl ⟨_, HP.out, by omega, rfl, HR.out⟩⟩
set_option maxRecDepth 100000 in
set_option maxHeartbeats 8000000 in
theorem header_any (a : Option Addr) (c : Nat) (p q s t : ByteArray) (w : World) (b : Nat) (r : Rd) (line err : Int) (hs : s.size ≤ 65536) (ht : t.size ≤ 65536) (hW : WordsAt w a [p, q, s, t]) (hR : RdAt w b r line err) :
    Calls Tryd.prog 44 #[.pointer (some ⟨b, 0, none⟩), .slice a 4 c] w (HeadPost w b r [W8 p, W8 q, W8 s, W8 t] line err) := by
  have HR := Lib.hid hR
  obtain ⟨A, cur, fr, rfl, hh, hc⟩ : ∃ A cur fr, a = some ⟨A, 0, none⟩ ∧ w.heap[A]? = some (.cells cur 9 fr) ∧ ∀ j, j < 4 → cur[j]? = some (.string ([p, q, s, t].getD j ⟨#[]⟩)) := by
    rcases hW with h | h
    · simp at h
    · exact h
  have w0 : w.cell? ⟨A, 0, none⟩ = some (.string p) := heap_cell hh (hc 0 (by omega))
  have w1 : w.cell? ⟨A, 1, none⟩ = some (.string q) := heap_cell hh (hc 1 (by omega))
  have w2 : w.cell? ⟨A, 2, none⟩ = some (.string s) := heap_cell hh (hc 2 (by omega))
  have HW3 : Hid (w.cell? ⟨A, 3, none⟩ = some (.string t)) := heap_cell hh (hc 3 (by omega))
  have HA : Hid (A < w.heap.size) := (Array.getElem?_eq_some_iff.1 hh).1
  clear hh hc hR
  by_cases hp : p.toList = [112]
  · have hp2 : (!p.toList == [112]) = false := by simp [hp]
    by_cases hq : q.toList = [99, 110, 102]
    · have hq2 : (!q.toList == [99, 110, 102]) = false := by simp [hq]
      have HN := Lib.hid (headW_nums (c := 1048577) (p := W8 p) (q := W8 q) (a := W8 s) (b := W8 t) (by rw [← toList_w8]; exact hp) (by rw [← toList_w8]; exact hq))
      clear hp hq
      obtain ⟨x, hx⟩ : ∃ x, numV 1048577 (W8 s) = x := ⟨_, rfl⟩
      obtain ⟨y, hy⟩ : ∃ y, numV 1048577 (W8 t) = y := ⟨_, rfl⟩
      obtain ⟨kx, hkx⟩ : ∃ x, numK 1048577 (W8 s) = x := ⟨_, rfl⟩
      obtain ⟨ky, hky⟩ : ∃ y, numK 1048577 (W8 t) = y := ⟨_, rfl⟩
      rw [hx, hy, hkx, hky] at HN
      have HX := Lib.hid hx
      have HY := Lib.hid hy
      have HKX := Lib.hid hkx
      have HKY := Lib.hid hky
      clear hx hy hkx hky
      cases kx
      all_goals cases ky
      all_goals
        go_enter Tryd.func44, Tryd.ntmps44
        go_wp2_with fail
        refine (number_any s w hs).mono ?_
        rintro e wa ⟨he, hB⟩
        unfold NumPost at he
        rw [HX.out, HKX.out] at he
        subst he
        have HB := Lib.hid hB
        have w3 := (hB.cell (p := ⟨A, 3, none⟩) HA.out).trans HW3.out
        clear hB w0 w1 w2
        go_wp2_with fail
        refine (number_any t wa ht).mono ?_
        rintro e wb ⟨he, hB⟩
        unfold NumPost at he
        rw [HY.out, HKY.out] at he
        subst he
        have HB2 := Lib.hid (HB.out.trans (hB.mono HB.out.size))
        obtain ⟨v, u, hI⟩ := HR.out
        have hI2 := hI.below HB2.out
        have HI2 := Lib.hid hI2
        have c0 := hI2.c0
        have c1 := hI2.c1
        have c2 := hI2.c2
        have f0 := hI2.free 0
        have f1 := hI2.free 1
        have f2 := hI2.free 2
        have HBb := Lib.hid (HB2.out.mono (Nat.le_of_lt hI.lt))
        clear hB w3 HB hI hI2
        go_wp2
      · go_ret
        exact ⟨HBb.out, StrKept.of_below HB2.out, .inl ⟨4, HN.out.trans (by simp), by omega, rfl, _, _, HI2.out⟩⟩
      · go_ret
        exact ⟨HBb.out, StrKept.of_below HB2.out, .inl ⟨4, HN.out.trans (by simp), by omega, rfl, _, _, HI2.out⟩⟩
      · go_ret
        exact ⟨HBb.out, StrKept.of_below HB2.out, .inl ⟨4, HN.out.trans (by simp), by omega, rfl, _, _, HI2.out⟩⟩
      · have h : x < 0 ∨ y < 0 := by assumption
        go_ret
        exact ⟨HBb.out, StrKept.of_below HB2.out, .inl ⟨4, HN.out.trans (by rw [if_pos (by simp), if_pos h]), by omega, rfl, _, _, HI2.out⟩⟩
      · have h : 0 ≤ x ∧ 0 ≤ y := by assumption
        have h2 : 1048576 < x := by assumption
        go_ret
        exact ⟨HBb.out, StrKept.of_below HB2.out, .inl ⟨3, HN.out.trans (by rw [if_pos (by simp), if_neg (by omega), if_pos h2]), by omega, rfl, _, _, HI2.out⟩⟩
      · have h : 0 ≤ x ∧ 0 ≤ y := by assumption
        have h2 : x ≤ 1048576 := by assumption
        have h3 : 1048576 < y := by assumption
        go_ret
        exact ⟨HBb.out, StrKept.of_below HB2.out, .inl ⟨5, HN.out.trans (by rw [if_pos (by simp), if_neg (by omega), if_neg (by omega), if_pos h3]), by omega, rfl, _, _, HI2.out⟩⟩
      · have h : 0 ≤ x ∧ 0 ≤ y := by assumption
        have h2 : x ≤ 1048576 := by assumption
        have h3 : y ≤ 1048576 := by assumption
        go_ret
        exact ⟨HBb.out.trans (HI2.out.began _ _ _).1, (StrKept.of_below HB2.out).trans (HI2.out.began _ _ _).2, .inr ⟨x, y, HN.out.trans (by rw [if_pos (by simp), if_neg (by omega), if_neg (by omega), if_neg (by omega)]), rfl, _, _, HI2.out.begin x y⟩⟩
      · have h : x < 0 := by assumption
        go_ret
        exact ⟨HBb.out, StrKept.of_below HB2.out, .inl ⟨4, HN.out.trans (by rw [if_pos (by simp), if_pos (.inl h)]), by omega, rfl, _, _, HI2.out⟩⟩
    · have HNE := hq
      have hq2 : (!q.toList == [99, 110, 102]) = true := by simp [hq]
      have HP := Lib.hid (headW_name (c := 1048577) (p := W8 p) (q := W8 q) (a := W8 s) (b := W8 t) (fun e => HNE (by rw [toList_w8]; exact e.2)))
      clear HNE
      go_enter Tryd.func44, Tryd.ntmps44
      go_wp2
      go_ret
      exact ⟨Below.refl _ _, StrKept.refl _, .inl ⟨_, HP.out, by omega, rfl, HR.out⟩⟩
  · have HNE := hp
    have hp2 : (!p.toList == [112]) = true := by simp [hp]
    have HP := Lib.hid (headW_name (c := 1048577) (p := W8 p) (q := W8 q) (a := W8 s) (b := W8 t) (fun e => HNE (by rw [toList_w8]; exact e.1)))
    clear HNE
    go_enter Tryd.func44, Tryd.ntmps44
    go_wp2
    go_ret
    exact ⟨Below.refl _ _, StrKept.refl _, .inl ⟨_, HP.out, by omega, rfl, HR.out⟩⟩
end Go.Proofs.YtkannkalbhmlcaaDoor
