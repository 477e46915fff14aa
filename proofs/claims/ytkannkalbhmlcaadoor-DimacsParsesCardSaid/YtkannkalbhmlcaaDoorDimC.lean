/-
  The number of a word: contract of the program's function. What the program needs of the library's variables.
-/
import Derived.Test.YtkannkalbhmlcaaDoorDimB
import Derived.Test.YtkannkalbhmlcaaDoorShelf
import Derived.Test.YtkannkalbhmlcaaDoorCnfA
import Derived.Lib.ConvBytes
import Derived.Lib.AppendIntMem
namespace Go.Proofs.YtkannkalbhmlcaaDoor
open Go.RowKit Go.Lib
open Go.RowKit (Below)

/-- What the library's variables hold. -/
structure Env (w : World) : Prop where
  cell : ∃ m, w.cell? ⟨0, 0, none⟩ = some (.int .i64 m)
  tab : Lib.TabIs Tryd.prog w "internal/strconv.uint64pow10" .u64 Lib.pow10Tab
theorem Env.lt {w : World} (h : Env w) : 0 < w.heap.size := by
  obtain ⟨m, hm⟩ := h.cell
  by_cases h0 : 0 < w.heap.size
  · exact h0
  · have : w.heap[0]? = none := by rw [Array.getElem?_eq_none_iff]; omega
    simp [World.cell?, this] at hm
theorem Env.below {w w' : World} (h : Env w) (hb : Below w.heap.size w w') : Env w' := by
  obtain ⟨m, hm⟩ := h.cell
  exact ⟨⟨m, (hb.cell (p := ⟨0, 0, none⟩) h.lt).trans hm⟩, Lib.tabBelow_of_tabIs h.tab w' hb⟩
theorem Env.tabBelow {w : World} (h : Env w) : Lib.TabBelow Tryd.prog w.heap.size w "internal/strconv.uint64pow10" .u64 Lib.pow10Tab := Lib.tabBelow_of_tabIs h.tab

theorem w8_mk (l : List UInt8) : W8 ⟨l.toArray⟩ = l := rfl
theorem trim_minus (s : ByteArray) : Lib.trimPrefix s.data.toList [45] = unsign (W8 s) := by
  unfold Lib.trimPrefix Lib.hasPrefix unsign W8
  cases s.data.toList with
  | nil => rfl
  | cons d t =>
    by_cases h : d = 45
    · subst h; simp
    · have : ([45].isPrefixOf (d :: t)) = false := by simp [List.isPrefixOf]; exact fun e => h e.symm
      rw [this]
      simp only [Bool.false_eq_true, if_false]
      split
      · rename_i e; cases e; exact absurd rfl h
      · rfl
theorem unsign_le (l : Word) : (unsign l).length ≤ l.length := by unfold unsign; split <;> simp
theorem neg_iff {s : ByteArray} (h0 : 0 < s.size) : ((s[0].toNat : Int) == 45) = neg (W8 s) := by
  cases h : ((s[0].toNat : Int) == 45)
  · exact (unsign_plain (fun _ => h)).2.symm
  · exact (unsign_minus h0 h).2.symm

theorem trim_is {s D : ByteArray} (h : unsign (W8 s) = W8 D) (w : World) : Calls Tryd.prog 65 #[.string s, .string ⟨#[45]⟩] w fun e w' => e = .returned (.string D) ∧ w = w' :=
  (Tryd.strings_TrimPrefix s ⟨#[45]⟩ w).mono fun e w' ⟨he, hw⟩ => by
    refine ⟨?_, hw.symm⟩
    rw [he, show ((⟨#[45]⟩ : ByteArray).data.toList) = [45] from rfl, trim_minus, h]
theorem bytesBelow (w : World) (e : TypeId) (s : ByteArray) : Below w.heap.size w (bytesWorld w e s) :=
  ⟨rfl, rfl, rfl, by rw [bytesWorld_size]; omega, fun k hk => bytesWorld_at_old w e s k hk⟩

set_option maxHeartbeats 2000000 in
theorem number_any (s : ByteArray) (w : World) (hs : s.size ≤ 65536) :
    Calls Tryd.prog 54 #[.string s] w fun e w' => NumPost 1048577 (W8 s) e ∧ Below w.heap.size w w' := by
  obtain ⟨D, hD⟩ : ∃ D : ByteArray, unsign (W8 s) = W8 D := ⟨⟨(unsign (W8 s)).toArray⟩, rfl⟩
  have hDs : D.size ≤ 65536 := by have := unsign_le (W8 s); rw [hD, w8_len, w8_len] at this; omega
  have HU := Lib.hid hD
  clear hD
  by_cases h0 : 0 < D.size
  · have hs0 : 0 < s.size := by have := unsign_le (W8 s); rw [HU.out, w8_len, w8_len] at this; omega
    obtain ⟨hl0, hl1⟩ := not_empty h0
    obtain ⟨t, ht⟩ := head_of h0
    have HT := Lib.hid ht
    clear ht
    by_cases hlead : (D[0].toNat : Int) = 48 ∧ ¬ s.toList = [48]
    · obtain ⟨h48, h1⟩ := hlead
      have h2 : (!s.toList == [48]) = true := by simp [h1]
      have HP := Lib.hid (numPost_none (num_lead 1048577 (l := W8 s) (t := t) (by rw [HU.out, HT.out, byte_eq (v := 48) h48]) (by rw [← toList_w8]; exact h1)))
      clear h1
      go_enter Tryd.func54, Tryd.ntmps54
      go_wp2_with (go_at_call 65; refine (trim_is HU.out _).mono ?_; rintro e w' ⟨rfl, rfl⟩)
      go_ret2
      exact ⟨HP.out, Below.refl _ _⟩
    · have HL := Lib.hid (num_loop (c := 1048577) HU.out (by rw [HT.out]; simp) (fun e => by
        rw [HT.out] at e
        simp at e
        have : s.toList = [48] := Decidable.byContradiction fun h => hlead ⟨by rw [e]; rfl, h⟩
        rw [toList_w8] at this; exact this))
      have hc : (((D[0].toNat : Int) = 48) ∧ (!s.toList == [48]) = false) ∨ ¬ (D[0].toNat : Int) = 48 := by
        by_cases h48 : (D[0].toNat : Int) = 48
        · exact .inl ⟨h48, by simp [Decidable.byContradiction fun h => hlead ⟨h48, h⟩]⟩
        · exact .inr h48
      clear hlead
      have HB := Lib.hid (bytesBelow w 5 D)
      have HCL := fun k (hk : k < D.size) => Lib.hid (bytesWorld_cell w 5 D k hk)
      have HG := Lib.hid (neg_iff hs0)
      have hcv := Go.Lib.run_convert_string_bytes (P := Tryd.prog) w 9 37 5 D Tryd.underlying9 Tryd.underlying37 Tryd.underlying5
      obtain ⟨W1, hW1⟩ : ∃ W1, bytesWorld w 5 D = W1 := ⟨_, rfl⟩
      rw [hW1] at hcv
      have HW1 := Lib.hid hW1
      clear hW1
      obtain ⟨cp, hcp⟩ : ∃ cp, grownCap w D.size 0 5 = cp := ⟨_, rfl⟩
      rw [hcp] at hcv
      clear hcp
      rcases hc with ⟨h48, h1⟩ | h48
      all_goals
        go_enter Tryd.func54, Tryd.ntmps54
        go_wp2_with (go_at_call 65; refine (trim_is HU.out _).mono ?_; rintro e w' ⟨rfl, rfl⟩)
        go_loop [5, 24] (fun n i => ∃ (x k : Nat), i = .int .i64 k ∧ n = .int .i64 x ∧ k ≤ D.size ∧ x ≤ 1048577 ∧ Hid (DigAt 1048577 (W8 D) x k)) (fun _ i => D.size - (intOf i).toNat)
        case atStart => exact ⟨0, 0, rfl, rfl, Nat.zero_le _, by omega, DigAt.first _ _⟩
        case round =>
          obtain ⟨x, k, rfl, rfl, hk, hx, HD⟩ := hrel
          clear hcv
          by_cases hlt : k < D.size
          · obtain ⟨u, HA, hcell⟩ : ∃ u : UInt8, Hid ((W8 D)[k]? = some u) ∧ W1.cell? ⟨w.heap.size, k, none⟩ = some (.int .u8 u.toNat) := by
              refine ⟨(W8 D).getD k 0, ?_, ?_⟩
              · unfold Hid; simp [List.getD, List.getElem?_eq_getElem (show k < (W8 D).length by rw [w8_len]; exact hlt)]
              · have := (HCL k hlt).out; rw [HW1.out] at this; exact this
            clear HCL
            have hu := u.toNat_lt
            go_wp2
            · have h1 : (u.toNat : Int) < 48 ∨ 57 < (u.toNat : Int) := by assumption
              go_ret2
              exact ⟨HL.out.2 x k _ HD.out HA.out (by omega), by have := HB.out; rw [HW1.out] at this; exact this⟩
            · have h1 : 48 ≤ (u.toNat : Int) ∧ (u.toNat : Int) ≤ 57 := by assumption
              have hN := Lib.hid (HD.out.next HA.out (by omega) (by omega))
              go_round
              case rel => exact ⟨min (10 * x + (u.toNat - 48)) 1048577, k + 1, by go_num, by congr 1; omega, by omega, by omega, hN⟩
              case measure => simp [intOf]; omega
            · have h1 : (u.toNat : Int) < 48 := by assumption
              go_ret2
              exact ⟨HL.out.2 x k _ HD.out HA.out (by omega), by have := HB.out; rw [HW1.out] at this; exact this⟩
          · have HP := Lib.hid (HL.out.1 x k HD.out (by rw [w8_len]; omega))
            cases hg : neg (W8 s)
            · have h45 : ((s[0].toNat : Int) == 45) = false := by rw [HG.out]; exact hg
              have HP2 : Hid (NumPost 1048577 (W8 s) (.returned (.tuple #[.int .i64 x, .bool true]))) := by have := HP.out; rw [hg] at this; exact this
              clear HP hg
              go_wp2
              go_ret2
              exact ⟨HP2.out, by have := HB.out; rw [HW1.out] at this; exact this⟩
            · have h45 : ((s[0].toNat : Int) == 45) = true := by rw [HG.out]; exact hg
              have HP2 : Hid (NumPost 1048577 (W8 s) (.returned (.tuple #[.int .i64 (-x), .bool true]))) := by have := HP.out; rw [hg] at this; exact this
              clear HP hg
              go_wp2
              go_ret2
              exact ⟨HP2.out, by have := HB.out; rw [HW1.out] at this; exact this⟩
  · have HE := Lib.hid (empty_of h0)
    have h2 : D.toList = [] := by rw [toList_w8]; exact HE.out
    have HP := Lib.hid (numPost_none (num_nil 1048577 (l := W8 s) (by rw [HU.out, HE.out])))
    go_enter Tryd.func54, Tryd.ntmps54
    go_wp2_with (go_at_call 65; refine (trim_is HU.out _).mono ?_; rintro e w' ⟨rfl, rfl⟩)
    go_ret2
    exact ⟨HP.out, Below.refl _ _⟩
end Go.Proofs.YtkannkalbhmlcaaDoor
