/-
  The number of a word: contract of the reference's function.
-/
import Derived.Test.YtkannkalbhmlcaaDoorDimA
import Derived.Test.YtkannkalbhmlcaaDoorLitA
import Derived.Outline
import Derived.Lib.Strings
namespace Go.Proofs.YtkannkalbhmlcaaDoor
open Go.RowKit Go.Lib
open Go.RowKit (Below)

abbrev W8 (s : ByteArray) : Word := s.data.toList
def numV (c : Nat) (l : Word) : Int := (num c l).getD 0
def numK (c : Nat) (l : Word) : Bool := (num c l).isSome

theorem num_nil (c : Nat) {l : Word} (h : unsign l = []) : num c l = none := by unfold num; rw [h]
theorem num_lead (c : Nat) {l t : Word} (h : unsign l = 48 :: t) (hl : l ≠ [48]) : num c l = none := by unfold num; rw [h]; simp [hl]
theorem num_digs (c : Nat) {l D : Word} (h : unsign l = D) (h0 : D ≠ []) (h1 : D.head? = some 48 → l = [48]) : num c l = (digs c 0 D).map fun (x : Nat) => if neg l then -(x : Int) else x := by
  unfold num
  rw [h]
  cases D with
  | nil => exact absurd rfl h0
  | cons d t =>
    simp only
    rw [if_neg]
    rintro ⟨e, e2⟩
    exact e2 (h1 (by rw [e]; rfl))
theorem digs_at {c x k : Nat} {D : Word} {u : UInt8} (hu : D[k]? = some u) (h1 : 48 ≤ u.toNat) (h2 : u.toNat ≤ 57) : digs c x (D.drop k) = digs c (min (10 * x + (u.toNat - 48)) c) (D.drop (k + 1)) := by
  obtain ⟨hk, rfl⟩ := List.getElem?_eq_some_iff.1 hu
  rw [List.drop_eq_getElem_cons hk, digs, if_pos ⟨h1, h2⟩]
theorem digs_bad {c x k : Nat} {D : Word} {u : UInt8} (hu : D[k]? = some u) (h : ¬ (48 ≤ u.toNat ∧ u.toNat ≤ 57)) : digs c x (D.drop k) = none := by
  obtain ⟨hk, rfl⟩ := List.getElem?_eq_some_iff.1 hu
  rw [List.drop_eq_getElem_cons hk, digs, if_neg h]
theorem digs_end {c x k : Nat} {D : Word} (h : D.length ≤ k) : digs c x (D.drop k) = some x := by
  rw [List.drop_eq_nil_of_le h, digs]
theorem at_of {s : ByteArray} {k : Nat} (h : k < s.size) : (W8 s)[k]? = some s[k] := by
  have : k < (W8 s).length := by rw [← size_eq]; exact h
  rw [List.getElem?_eq_getElem this]; rfl
theorem w8_len (s : ByteArray) : (W8 s).length = s.size := (size_eq s).symm
theorem w8_tail (s : ByteArray) : W8 (s.extract 1 s.size) = (W8 s).tail := by
  unfold W8
  rw [extract_data, List.take_of_length_le (by rw [List.length_drop, ← size_eq]; exact Nat.le_refl _)]
  simp
theorem w8_inj {a b : ByteArray} (h : W8 a = W8 b) : a = b := by
  cases a with | mk a => cases b with | mk b => cases a; cases b; simp [W8] at h; rw [h]
theorem unsign_minus {s : ByteArray} (h0 : 0 < s.size) (h : ((s[0].toNat : Int) == 45) = true) : unsign (W8 s) = W8 (s.extract 1 s.size) ∧ neg (W8 s) = true := by
  rw [w8_tail]
  have h1 := at_of h0
  have h2 : s[0] = 45 := by
    have : s[0].toNat = 45 := by have h2 := eq_of_beq h; omega
    exact UInt8.toNat_inj.1 this
  rw [h2] at h1
  generalize W8 s = l at h1
  cases l with
  | nil => simp at h1
  | cons d t => simp at h1; subst h1; exact ⟨rfl, rfl⟩
theorem unsign_plain {s : ByteArray} (h : ∀ h0 : 0 < s.size, ((s[0].toNat : Int) == 45) = false) : unsign (W8 s) = W8 s ∧ neg (W8 s) = false := by
  by_cases h0 : 0 < s.size
  · have h1 := at_of h0
    have h2 : s[0] ≠ 45 := by
      intro e
      have := h h0
      rw [e] at this
      simp at this
    generalize s[0] = u at h1 h2
    generalize W8 s = l at h1
    cases l with
    | nil => simp at h1
    | cons d t =>
      simp at h1; subst h1
      unfold unsign neg
      constructor
      · split
        · rename_i h3; cases h3; exact absurd rfl h2
        · rfl
      · split
        · rename_i h3; cases h3; exact absurd rfl h2
        · rfl
  · have : W8 s = [] := List.eq_nil_of_length_eq_zero (by rw [w8_len]; omega)
    rw [this]; exact ⟨rfl, rfl⟩
theorem toList_w8 (s : ByteArray) : s.toList = W8 s := toList_data s
def NumPost (c : Nat) (l : Word) (e : Ending) : Prop := e = .returned (.tuple #[.int .i64 (numV c l), .bool (numK c l)])
theorem numPost_none {c : Nat} {l : Word} (h : num c l = none) : NumPost c l (.returned (.tuple #[.int .i64 0, .bool false])) := by unfold NumPost numV numK; rw [h]; rfl
theorem numPost_some {c : Nat} {l : Word} {x : Int} (h : num c l = some x) : NumPost c l (.returned (.tuple #[.int .i64 x, .bool true])) := by unfold NumPost numV numK; rw [h]; rfl

/-- What the loop over the digits carries. -/
def DigAt (c : Nat) (D : Word) (x k : Nat) : Prop := digs c 0 D = digs c x (D.drop k)
theorem DigAt.first (c : Nat) (D : Word) : DigAt c D 0 0 := rfl
theorem DigAt.next {c x k : Nat} {D : Word} (h : DigAt c D x k) {u : UInt8} (hu : D[k]? = some u) (h1 : 48 ≤ u.toNat) (h2 : u.toNat ≤ 57) : DigAt c D (min (10 * x + (u.toNat - 48)) c) (k + 1) := by
  unfold DigAt at *; rw [h, digs_at hu h1 h2]
theorem byte_sub (u : UInt8) (h1 : 48 ≤ u.toNat) (h2 : u.toNat ≤ 57) : IntKind.u8.wrap ((u.toNat : Int) - 48) = ((u.toNat - 48 : Nat) : Int) := by
  have : IntKind.u8.wrap ((u.toNat : Int) - 48) = ((u.toNat : Int) - 48) % 256 := by simp [IntKind.wrap, IntKind.bits, IntKind.signed]
  rw [this]; omega

theorem not_empty {s : ByteArray} (h : 0 < s.size) : ¬ s.toList = [] ∧ s.toList.isEmpty = false := by
  have : ¬ s.toList = [] := by
    intro e
    have := congrArg List.length e
    rw [toList_w8, w8_len] at this
    have h0 : s.size = 0 := this
    omega
  exact ⟨this, by simpa using this⟩
theorem empty_of {s : ByteArray} (h : ¬ 0 < s.size) : W8 s = [] := List.eq_nil_of_length_eq_zero (by rw [w8_len]; omega)
theorem head_of {s : ByteArray} (h : 0 < s.size) : ∃ t, W8 s = s[0] :: t := by
  have := at_of h
  cases hw : W8 s with
  | nil => rw [hw] at this; simp at this
  | cons d t => rw [hw] at this; simp at this; subst this; exact ⟨t, rfl⟩
theorem byte_eq {u v : UInt8} (h : (u.toNat : Int) = v.toNat) : u = v := UInt8.toNat_inj.1 (by omega)

/-- The loop over digits, in the walk's words: D the digits, l the word. -/
theorem num_loop {c : Nat} {l D : Word} (hu : unsign l = D) (h0 : D ≠ []) (h1 : D.head? = some 48 → l = [48]) :
    (∀ x k : Nat, DigAt c D x k → D.length ≤ k → NumPost c l (.returned (.tuple #[.int .i64 (if neg l then -(x : Int) else x), .bool true]))) ∧
    (∀ (x k : Nat) (u : UInt8), DigAt c D x k → D[k]? = some u → ¬ (48 ≤ u.toNat ∧ u.toNat ≤ 57) → NumPost c l (.returned (.tuple #[.int .i64 0, .bool false]))) := by
  have hd := num_digs c hu h0 h1
  constructor
  · intro x k ha hk
    refine numPost_some ?_
    rw [hd, ha, digs_end hk]; rfl
  · intro x k u ha hk hb
    refine numPost_none ?_
    rw [hd, ha, digs_bad hk hb]; rfl

set_option maxHeartbeats 1000000 in
/-- No sign. -/
theorem refNumber_plain (s : ByteArray) (w : World) (hs : s.size ≤ 65536) (hp : ∀ h0 : 0 < s.size, ((s[0].toNat : Int) == 45) = false) :
    Calls Tryd.prog 34 #[.string s] w fun e w' => NumPost 1099511627776 (W8 s) e ∧ w = w' := by
  obtain ⟨hu, hn⟩ := unsign_plain hp
  by_cases h0 : 0 < s.size
  · have hp0 := hp h0
    obtain ⟨hl0, hl1⟩ := not_empty h0
    obtain ⟨t, ht⟩ := head_of h0
    clear hp
    have HT := Lib.hid ht
    have HU := Lib.hid hu
    have HN := Lib.hid hn
    clear ht hu hn
    by_cases hlead : (s[0].toNat : Int) = 48 ∧ ¬ s.toList = [48]
    · obtain ⟨h48, h1⟩ := hlead
      have h2 : (!s.toList == [48]) = true := by simp [h1]
      have HP := Lib.hid (numPost_none (num_lead 1099511627776 (l := W8 s) (t := t) (by rw [HU.out, HT.out, byte_eq (v := 48) h48]) (by rw [← toList_w8]; exact h1)))
      go_enter Tryd.func34, Tryd.ntmps34
      go_wp2
      go_ret2
      exact ⟨HP.out, rfl⟩
    · have HL := Lib.hid (num_loop (c := 1099511627776) HU.out (by rw [HT.out]; simp) (fun e => by
        rw [HT.out] at e
        simp at e
        have : s.toList = [48] := Decidable.byContradiction fun h => hlead ⟨by rw [e]; rfl, h⟩
        rw [toList_w8] at this; exact this))
      have hc : (((s[0].toNat : Int) = 48) ∧ (!s.toList == [48]) = false) ∨ ¬ (s[0].toNat : Int) = 48 := by
        by_cases h48 : (s[0].toNat : Int) = 48
        · exact .inl ⟨h48, by simp [Decidable.byContradiction fun h => hlead ⟨h48, h⟩]⟩
        · exact .inr h48
      clear hlead
      rcases hc with ⟨h48, h1⟩ | h48
      all_goals
        go_enter Tryd.func34, Tryd.ntmps34
        go_wp2
        go_loop [5, 6] (fun n i => ∃ (x k : Nat), i = .int .i64 k ∧ n = .int .i64 x ∧ k ≤ s.size ∧ x ≤ 1099511627776 ∧ Hid (DigAt 1099511627776 (W8 s) x k)) (fun _ i => s.size - (intOf i).toNat)
        case atStart => exact ⟨0, 0, rfl, rfl, Nat.zero_le _, by omega, DigAt.first _ _⟩
        case round =>
          obtain ⟨x, k, rfl, rfl, hk, hx, HD⟩ := hrel
          by_cases hlt : k < s.size
          · have hu := at_of hlt
            have HA := Lib.hid hu
            clear hu
            go_wp2
            · have h1 : (s[k].toNat : Int) < 48 ∨ 57 < (s[k].toNat : Int) := by assumption
              go_ret2
              exact ⟨HL.out.2 x k _ HD.out HA.out (by omega), rfl⟩
            · have h1 : 48 ≤ (s[k].toNat : Int) ∧ (s[k].toNat : Int) ≤ 57 := by assumption
              have hN := Lib.hid (HD.out.next HA.out (by omega) (by omega))
              go_round
              case rel => exact ⟨min (10 * x + (s[k].toNat - 48)) 1099511627776, k + 1, by go_num, by first | (split <;> (congr 1; omega)) | (congr 1; split <;> omega), by omega, by omega, hN⟩
              case measure => simp [intOf]; omega
            · have h1 : (s[k].toNat : Int) < 48 := by assumption
              go_ret2
              exact ⟨HL.out.2 x k _ HD.out HA.out (by omega), rfl⟩
          · have HP := Lib.hid (HL.out.1 x k HD.out (by rw [w8_len]; omega))
            have HP2 : Hid (NumPost 1099511627776 (W8 s) (.returned (.tuple #[.int .i64 x, .bool true]))) := by have := HP.out; rw [HN.out] at this; exact this
            clear HP
            go_wp2
            go_ret2
            exact ⟨HP2.out, rfl⟩
  · have HE := Lib.hid (empty_of h0)
    have h1 : s.toList = [] := by rw [toList_w8]; exact HE.out
    have HP := Lib.hid (numPost_none (num_nil 1099511627776 (l := W8 s) (by rw [HE.out]; rfl)))
    clear hp hu hn
    go_enter Tryd.func34, Tryd.ntmps34
    go_wp2
    go_ret2
    exact ⟨HP.out, rfl⟩

theorem tail_size (s : ByteArray) : (s.extract 1 s.size).size = s.size - 1 := by rw [ByteArray.size_extract]; omega
set_option maxHeartbeats 1000000 in
/-- A sign. -/
theorem refNumber_minus (s : ByteArray) (w : World) (hs : s.size ≤ 65536) (h0 : 0 < s.size) (hp0 : ((s[0].toNat : Int) == 45) = true) :
    Calls Tryd.prog 34 #[.string s] w fun e w' => NumPost 1099511627776 (W8 s) e ∧ w = w' := by
  obtain ⟨hu, hn⟩ := unsign_minus h0 hp0
  have hds := tail_size s
  have HS := Lib.hid hds
  by_cases h1 : 0 < s.size - 1
  · have hD : 0 < (s.extract 1 s.size).size := by omega
    obtain ⟨hl0, hl1⟩ := not_empty hD
    obtain ⟨t, ht⟩ := head_of hD
    have hne : ¬ s.toList = [48] := by
      intro e
      have := congrArg List.length e
      rw [toList_w8, w8_len] at this
      have h1 : s.size = 1 := this
      omega
    have h2 : (!s.toList == [48]) = true := by simp [hne]
    have h3 : (!(s.extract 1 s.size).toList == s.toList) = true := by
      have : ¬ (s.extract 1 s.size).toList = s.toList := by
        intro e
        have := congrArg List.length e
        rw [toList_w8, toList_w8, w8_len, w8_len] at this
        omega
      simp [this]
    have HT := Lib.hid ht
    have HU := Lib.hid hu
    have HN := Lib.hid hn
    have HNE := Lib.hid hne
    clear ht hu hn hne
    clear hds
    by_cases h48 : ((s.extract 1 s.size)[0].toNat : Int) = 48
    · have HP := Lib.hid (numPost_none (num_lead 1099511627776 (l := W8 s) (t := t) (by rw [HU.out, HT.out, byte_eq (v := 48) h48]) (by rw [← toList_w8]; exact HNE.out)))
      go_enter Tryd.func34, Tryd.ntmps34
      go_wp2
      go_ret2
      exact ⟨HP.out, rfl⟩
    · have HL := Lib.hid (num_loop (c := 1099511627776) HU.out (by rw [HT.out]; simp) (fun e => by
        rw [HT.out] at e
        simp at e
        exact absurd (show ((s.extract 1 s.size)[0].toNat : Int) = 48 by rw [e]; rfl) h48))
      go_enter Tryd.func34, Tryd.ntmps34
      go_wp2
      go_loop [5, 6] (fun n i => ∃ (x k : Nat), i = .int .i64 k ∧ n = .int .i64 x ∧ k ≤ s.size - 1 ∧ x ≤ 1099511627776 ∧ Hid (DigAt 1099511627776 (W8 (s.extract 1 s.size)) x k)) (fun _ i => s.size - 1 - (intOf i).toNat)
      case atStart => exact ⟨0, 0, rfl, rfl, Nat.zero_le _, by omega, DigAt.first _ _⟩
      case round =>
        obtain ⟨x, k, rfl, rfl, hk, hx, HD⟩ := hrel
        by_cases hlt : k < s.size - 1
        · have hlt2 : k < (s.extract 1 s.size).size := by have := HS.out; omega
          have hu := at_of hlt2
          have HA := Lib.hid hu
          clear hu
          go_wp2
          · have h1 : ((s.extract 1 s.size)[k].toNat : Int) < 48 ∨ 57 < ((s.extract 1 s.size)[k].toNat : Int) := by assumption
            go_ret2
            exact ⟨HL.out.2 x k _ HD.out HA.out (by omega), rfl⟩
          · have h1 : 48 ≤ ((s.extract 1 s.size)[k].toNat : Int) ∧ ((s.extract 1 s.size)[k].toNat : Int) ≤ 57 := by assumption
            have hN := Lib.hid (HD.out.next HA.out (by omega) (by omega))
            go_round
            case rel => exact ⟨min (10 * x + ((s.extract 1 s.size)[k].toNat - 48)) 1099511627776, k + 1, by go_num, by first | (split <;> (congr 1; omega)) | (congr 1; split <;> omega), by omega, by omega, hN⟩
            case measure => simp [intOf]; omega
          · have h1 : ((s.extract 1 s.size)[k].toNat : Int) < 48 := by assumption
            go_ret2
            exact ⟨HL.out.2 x k _ HD.out HA.out (by omega), rfl⟩
        · have HP := Lib.hid (HL.out.1 x k HD.out (by rw [w8_len]; have := HS.out; omega))
          have HP2 : Hid (NumPost 1099511627776 (W8 s) (.returned (.tuple #[.int .i64 (-x), .bool true]))) := by have := HP.out; rw [HN.out] at this; exact this
          clear HP
          go_wp2
          go_ret2
          exact ⟨HP2.out, rfl⟩
  · have hE : ¬ 0 < (s.extract 1 s.size).size := by omega
    have HE := Lib.hid (empty_of hE)
    have h2 : (s.extract 1 s.size).toList = [] := by rw [toList_w8]; exact HE.out
    have HP := Lib.hid (numPost_none (num_nil 1099511627776 (l := W8 s) (by rw [hu, HE.out])))
    clear hu hn hds hE
    go_enter Tryd.func34, Tryd.ntmps34
    go_wp2
    go_ret2
    exact ⟨HP.out, rfl⟩

theorem refNumber_any (s : ByteArray) (w : World) (hs : s.size ≤ 65536) :
    Calls Tryd.prog 34 #[.string s] w fun e w' => NumPost 1099511627776 (W8 s) e ∧ w = w' := by
  by_cases h0 : 0 < s.size
  · cases h : ((s[0].toNat : Int) == 45)
    · exact refNumber_plain s w hs (fun _ => h)
    · exact refNumber_minus s w hs h0 h
  · exact refNumber_plain s w hs (fun h => absurd h h0)
end Go.Proofs.YtkannkalbhmlcaaDoor
