/-
  Norm.
-/
import Derived.Test.YtnkemkgepipjcaaLitG
import Derived.Lib.SmallJoins
namespace Go.Proofs.Ytnkemkgepipjcaa
open Go.RowKit Go.Lib
open Go.RowKit (Below)

/-- What one literal of the sorted list does to those that were taken so far. -/
def normStep (acc : List Int) (x : Int) : Option (List Int) :=
  if x = 0 then some acc else
  match acc.getLast? with
  | none => some (acc ++ [x])
  | some y => if x = y then some acc else if au x = au y then none else some (acc ++ [x])
def normFold (S : List Int) : Option (List Int) := S.foldlM normStep []
def normB (zs : List Int) : List Int × Bool := match normFold (sortL zs) with | none => ([], true) | some r => (r, false)
theorem normB_none {zs : List Int} (h : normFold (sortL zs) = none) : normB zs = ([], true) := by unfold normB; rw [h]
theorem normB_some {zs r : List Int} (h : normFold (sortL zs) = some r) : normB zs = (r, false) := by unfold normB; rw [h]

theorem normFold_step {S acc r : List Int} {k : Nat} {x : Int} (h : normFold (S.take k) = some acc) (hx : S[k]? = some x) (hs : normStep acc x = some r) : normFold (S.take (k + 1)) = some r := by
  unfold normFold at *
  rw [take_snoc _ _ _ hx, List.foldlM_append, h]
  simp [hs]
theorem normFold_stop {S acc : List Int} {k : Nat} {x : Int} (h : normFold (S.take k) = some acc) (hx : S[k]? = some x) (hs : normStep acc x = none) : normFold S = none := by
  unfold normFold at *
  obtain ⟨hk, rfl⟩ := List.getElem?_eq_some_iff.1 hx
  have e : S = S.take k ++ S[k] :: S.drop (k + 1) := by rw [← List.drop_eq_getElem_cons hk, List.take_append_drop]
  rw [e, List.foldlM_append, h]
  show List.foldlM normStep acc (S[k] :: S.drop (k + 1)) = none
  rw [List.foldlM_cons, hs]; rfl
theorem normStep_zero (acc : List Int) : normStep acc 0 = some acc := by unfold normStep; rw [if_pos rfl]
theorem normStep_first {x : Int} (h : x ≠ 0) : normStep [] x = some [x] := by unfold normStep; rw [if_neg h]; rfl
theorem normStep_same {acc : List Int} {x : Int} (h : x ≠ 0) (hl : acc.getLast? = some x) : normStep acc x = some acc := by
  unfold normStep; rw [if_neg h, hl]; simp
theorem normStep_twice {acc : List Int} {x y : Int} (h : x ≠ 0) (hl : acc.getLast? = some y) (hne : x ≠ y) (ha : au x = au y) : normStep acc x = none := by
  unfold normStep; rw [if_neg h, hl]; simp [hne, ha]
theorem normStep_next {acc : List Int} {x y : Int} (h : x ≠ 0) (hl : acc.getLast? = some y) (hne : x ≠ y) (ha : au x ≠ au y) : normStep acc x = some (acc ++ [x]) := by
  unfold normStep; rw [if_neg h, hl]; simp [hne, ha]

/-- The state of the loop: 'cur' is what the row holds now. -/
structure NormAt (W : World) (B0 : Nat) (w0 : World) (B g cap : Nat) (S cur acc : List Int) (k : Nat) : Prop where
  hk : k ≤ S.length
  len : cur.length = S.length
  le : acc.length ≤ k
  front : cur.take acc.length = acc
  back : cur.drop k = S.drop k
  own : W.ownsRow B 3 1 (.slice (some ⟨g, 0, none⟩) S.length cap) S.length (cur.map (Value.int .i64))
  fold : normFold (S.take k) = some acc
  below : Below B0 w0 W

theorem NormAt.cell {W w0 : World} {B0 B g cap k : Nat} {S cur acc : List Int} (h : NormAt W B0 w0 B g cap S cur acc k) (hlt : k < S.length) : ∃ x, S[k]? = some x ∧ W.cell? ⟨g, k, none⟩ = some (.int .i64 x) := by
  refine ⟨S[k], by simp, ?_⟩
  rw [h.own.cellAt k (by omega)]
  have e : cur[k]? = S[k]? := by
    have := congrArg (fun l : List Int => l[0]?) h.back
    simpa using this
  rw [List.getElem?_map, e]; simp [hlt]
theorem NormAt.there {W w0 : World} {B0 B g cap k : Nat} {S cur acc : List Int} (h : NormAt W B0 w0 B g cap S cur acc k) {j : Nat} (hj : j < S.length) : ∃ z, W.cell? ⟨g, j, none⟩ = some (.int .i64 z) := by
  have hl := h.len
  exact ⟨cur[j], by rw [h.own.cellAt j (by omega), List.getElem?_map]; simp [hl, hj]⟩
theorem NormAt.last {W w0 : World} {B0 B g cap k : Nat} {S cur acc : List Int} (h : NormAt W B0 w0 B g cap S cur acc k) (hlt : 0 < acc.length) : ∃ y, acc.getLast? = some y ∧ W.cell? ⟨g, acc.length - 1, none⟩ = some (.int .i64 y) := by
  have hne : acc ≠ [] := by intro e; simp [e] at hlt
  refine ⟨acc[acc.length - 1], by rw [List.getLast?_eq_getElem?]; simp, ?_⟩
  have hk := h.hk; have hle := h.le
  rw [h.own.cellAt _ (by omega)]
  have e : cur[acc.length - 1]? = acc[acc.length - 1]? := by
    have := congrArg (fun l : List Int => l[acc.length - 1]?) h.front
    simp only [List.getElem?_take] at this
    rwa [if_pos (by omega)] at this
  rw [List.getElem?_map, e]; simp
theorem NormAt.skip {W w0 : World} {B0 B g cap k : Nat} {S cur acc : List Int} {x : Int} (h : NormAt W B0 w0 B g cap S cur acc k) (hx : S[k]? = some x) (hs : normStep acc x = some acc) : NormAt W B0 w0 B g cap S cur acc (k + 1) :=
  { hk := by obtain ⟨hk, _⟩ := List.getElem?_eq_some_iff.1 hx; omega
    len := h.len, le := by have := h.le; omega, front := h.front
    back := by have := congrArg (List.drop 1) h.back; simpa [List.drop_drop, Nat.add_comm] using this
    own := h.own, fold := normFold_step h.fold hx hs, below := h.below }
theorem NormAt.drewN {W w0 : World} {B0 B g cap k : Nat} {S cur acc : List Int} (h : NormAt W B0 w0 B g cap S cur acc k) (n : Nat) : NormAt (W.drewN n) B0 w0 B g cap S cur acc k :=
  { hk := h.hk, len := h.len, le := h.le, front := h.front, back := h.back, own := h.own, fold := h.fold, below := h.below.trans ⟨rfl, rfl, rfl, Nat.le_refl _, fun _ _ => rfl⟩ }
theorem NormAt.put {W w0 : World} {B0 B g cap k : Nat} {S cur acc : List Int} {x : Int} (h : NormAt W B0 w0 B g cap S cur acc k) (hB : B0 ≤ g) (hx : S[k]? = some x) (hs : normStep acc x = some (acc ++ [x])) :
    NormAt (W.setCell ⟨g, acc.length, none⟩ (.int .i64 x)) B0 w0 B g cap S (cur.set acc.length x) (acc ++ [x]) (k + 1) :=
  have hk : k < S.length := (List.getElem?_eq_some_iff.1 hx).1
  have hle := h.le
  have hlen := h.len
  { hk := by omega
    len := by simp [h.len], le := by simp; omega
    front := by
      rw [List.length_append, List.length_singleton, List.take_set, List.take_succ_eq_append_getElem (by omega), h.front]
      simp
    back := by
      rw [List.drop_set, if_pos (by omega)]
      have := congrArg (List.drop 1) h.back; simpa [List.drop_drop, Nat.add_comm] using this
    own := by rw [List.map_set]; exact (h.own.stored acc.length _).1
    fold := normFold_step h.fold hx hs
    below := h.below.setCell (p := ⟨g, acc.length, none⟩) hB _ }
theorem NormAt.done {W w0 : World} {B0 B g cap k : Nat} {S cur acc : List Int} (h : NormAt W B0 w0 B g cap S cur acc k) : IntsR W (some ⟨g, 0, none⟩) acc := by
  have hk := h.hk; have hle := h.le; have hlen := h.len
  by_cases h0 : acc.length = 0
  · exact .inl h0
  refine .inr ⟨g, 0, rfl, ?_, fun j hj => ?_⟩
  · exact (h.own.lt g rfl).2
  · rw [Nat.zero_add, h.own.cellAt _ (by omega)]
    have e : cur[j]? = acc[j]? := by
      have := congrArg (fun l : List Int => l[j]?) h.front
      simp only [List.getElem?_take] at this
      rwa [if_pos hj] at this
    rw [List.getElem?_map, e, getD_some _ 0 _ hj]; rfl

theorem getLast_none {acc : List Int} (h : acc.length = 0) : acc = [] := List.eq_nil_of_length_eq_zero h


theorem variable_q (x : Int) (w : World) : Calls Try.prog 33 #[.int .i64 x] w fun e w' => e = .returned (.int .u64 (au x)) ∧ w' = w := (variable_any x w).mono fun _ _ ⟨h1, h2⟩ => ⟨h1, h2.symm⟩


set_option maxHeartbeats 2000000 in
theorem norm_new (c : Option Addr) (cc : Nat) (zs : List Int) (w : World) (hm : zs.length * 8 ≤ 140737488351232) (h : IntsR w c zs) :
    Calls Try.prog 25 #[.slice c zs.length cc] w fun e w' => ∃ a c2, e = .returned (.tuple #[.slice a (normB zs).1.length c2, .bool (normB zs).2]) ∧ IntsR w' a (normB zs).1 ∧ (∀ p, a = some p → w.heap.size ≤ p.block ∧ p.block < w'.heap.size) ∧ Below w.heap.size w w' := by
  obtain ⟨S, hS⟩ : ∃ S, S = sortL zs := ⟨_, rfl⟩
  have hs := sorted_any c cc zs w hm h
  rw [← hS] at hs
  have hSl : S.length = zs.length := by rw [hS]; exact sortL_length zs
  have hSm : S.length * 8 ≤ 140737488351232 := by omega
  have HS := Lib.hid hS
  have H1 := Lib.hid hs
  clear hS hs hSl h
  go_enter Try.func25, Try.ntmps25
  go_wp2_with fail
  refine H1.out.mono ?_
  rintro e w1 ⟨v, rfl, hown, hbel⟩
  rcases Go.Joins.ownsRow_forms hown with ⟨rfl, h0⟩ | ⟨g, cap, rfl⟩
  · have hN : Hid (normB zs = ([], false)) := normB_some (by rw [← HS.out, List.eq_nil_of_length_eq_zero h0]; rfl)
    clear hown h0
    go_wp2
    refine wp_loop_rounds 1 ?_
    rw [rounds_succ]
    go_wp2
    go_ret2
    rw [hN.out]
    exact ⟨none, 0, rfl, .inl rfl, (fun p e => by cases e), hbel⟩
  · have hgB := (hown.lt g rfl).1
    have hcap : S.length ≤ cap ∧ cap ≤ maxLen := by
      rcases hown.2 with ⟨e0, _⟩ | ⟨_, _, _, e0, _, _, h1, h2, _⟩
      · cases e0
      · injection e0 with _ _ e3; subst e3; exact ⟨h1, h2⟩
    obtain ⟨hc1, hc2⟩ := hcap
    unfold maxLen at hc2
    have HN0 : Hid (NormAt w1 w.heap.size w (w.heap.size + 1) g cap S S [] 0) :=
      { hk := Nat.zero_le _, len := rfl, le := Nat.le_refl _, front := by simp, back := rfl, own := hown, fold := rfl, below := hbel }
    clear hown hbel
    go_wp2
    go_loopw [5, 12] (fun n i wr => ∃ (k m : Nat) (cur acc : List Int), i = .int .i64 k ∧ n = .int .i64 m ∧ Hid (m = acc.length) ∧ NormAt wr w.heap.size w (w.heap.size + 1) g cap S cur acc k) (fun _ i _ => S.length - (intOf i).toNat)
    case atStart => exact ⟨0, 0, S, [], rfl, rfl, rfl, HN0.out⟩
    case round =>
      clear HN0
      obtain ⟨k, m, cur, acc, rfl, rfl, HM, hN⟩ := hrel
      have hkS := hN.hk
      have hmk : m ≤ k := by have := hN.le; have := HM.out; omega
      by_cases hlt : k < S.length
      · obtain ⟨x, hx, hcx⟩ := hN.cell hlt
        have HX := Lib.hid hx
        have HN := Lib.hid hN
        have hfr : wr.frozen? ⟨g, m, none⟩ = false := hN.own.frozenAt m
        obtain ⟨z, hz⟩ := hN.there (j := m) (by omega)
        clear hx
        by_cases hx0 : x = 0
        · subst hx0
          have hR := Lib.hid (HN.out.skip HX.out (normStep_zero _))
          clear hN hfr hz
          go_wp2
          go_roundw
          case rel => exact ⟨k + 1, m, cur, acc, by go_num, rfl, HM, hR.out⟩
          case measure => simp [intOf]; omega
        have e0 : (x == 0) = false := by simp [hx0]
        cases m with
        | zero =>
          have hacc : acc = [] := List.eq_nil_of_length_eq_zero HM.out.symm
          subst hacc
          have hR := Lib.hid (fun n => (HN.out.drewN n).put (by omega) HX.out (normStep_first hx0))
          clear hN hx0
          go_wp2
          go_quiet (fail)
          go_wp2
          go_roundw
          case rel => exact ⟨k + 1, 1, _, [x], by go_num, rfl, rfl, hR.out _⟩
          case measure => simp [intOf]; omega
        | succ m =>
          obtain ⟨y, hy, hcy⟩ := hN.last (by have := HM.out; omega)
          rw [← HM.out, Nat.add_sub_cancel] at hcy
          have hput : m + 1 = acc.length := HM.out
          by_cases hxy : x = y
          · subst hxy
            have hR := Lib.hid (HN.out.skip HX.out (normStep_same hx0 hy))
            clear hN hfr hz hy hput hx0
            go_wp2
            go_roundw
            case rel => exact ⟨k + 1, m + 1, cur, acc, by go_num, rfl, HM, hR.out⟩
            case measure => simp [intOf]; omega
          have e1 : (x == y) = false := by simp [hxy]
          by_cases hau : au x = au y
          · have hacc : Hid (normB zs = ([], true)) := normB_none (by rw [← HS.out]; exact normFold_stop HN.out.fold HX.out (normStep_twice hx0 hy hxy hau))
            have hB := Lib.hid (fun n => (HN.out.drewN n).below)
            have e2 : (au x == au y) = true := by simp [hau]
            clear hN hfr hz hy hput hx0 hxy hau
            go_wp2
            go_quiet ((go_at_call 33; exact Calls.quiet_of_same (variable_q _ _)))
            go_wp2
            go_ret2
            rw [hacc.out]
            exact ⟨none, 0, rfl, .inl rfl, (fun p e => by cases e), hB.out _⟩
          · have hR := Lib.hid (fun n => (HN.out.drewN n).put (by omega) HX.out (normStep_next hx0 hy hxy hau))
            have HP := Lib.hid hput
            rw [← hput] at hR
            have e2 : (au x == au y) = false := by simp [hau]
            clear hN hy hx0 hxy hau hput
            go_wp2
            go_quiet ((go_at_call 33; exact Calls.quiet_of_same (variable_q _ _)))
            go_wp2
            go_roundw
            case rel => exact ⟨k + 1, m + 1 + 1, _, acc ++ [x], by go_num, by go_num, by rw [List.length_append, ← HP.out]; rfl, hR.out _⟩
            case measure => simp [intOf]; omega
      · have hacc : Hid (normB zs = (acc, false)) := normB_some (by rw [← HS.out]; have := hN.fold; rwa [List.take_of_length_le (by omega)] at this)
        have hR : Hid (IntsR wr (some ⟨g, 0, none⟩) acc) := hN.done
        have hB : Hid (Below w.heap.size w wr) := hN.below
        have hP : Hid (w.heap.size ≤ g ∧ g < wr.heap.size) := ⟨by omega, (hN.own.lt g rfl).2⟩
        clear hN
        go_wp2
        go_ret2
        rw [hacc.out]
        refine ⟨some ⟨g, 0, none⟩, m, ?_, hR.out, (fun p e => by cases e; exact hP.out), hB.out⟩
        rw [show (acc, false).1.length = m from HM.out.symm]
        rfl
theorem norm_any (c : Option Addr) (cc : Nat) (zs : List Int) (w : World) (hm : zs.length * 8 ≤ 140737488351232) (h : IntsR w c zs) :
    Calls Try.prog 25 #[.slice c zs.length cc] w fun e w' => ∃ a c2, e = .returned (.tuple #[.slice a (normB zs).1.length c2, .bool (normB zs).2]) ∧ IntsR w' a (normB zs).1 ∧ Below w.heap.size w w' :=
  (norm_new c cc zs w hm h).mono fun _ _ ⟨a, c2, h1, h2, _, h3⟩ => ⟨a, c2, h1, h2, h3⟩
end Go.Proofs.Ytnkemkgepipjcaa
