/-
  The reference's Lines: its walk.
-/
import Derived.Test.YtkannkalbhmlcaaDoorDimN
namespace Go.Proofs.YtkannkalbhmlcaaDoor
open Go.RowKit Go.Lib
open Go.RowKit (Below)

def LinesPost (w : World) (l : List UInt8) (e : Ending) (w' : World) : Prop :=
  ∃ a c vs o, e = .returned (.slice a o.length c) ∧ o.map (fun bs => bs.map W8) = linesW l ∧ w'.ownsRow w.heap.size 35 1 (.slice a o.length c) o.length vs ∧ WordRows w' w.heap.size (.slice none 0 0) vs o ∧ Below w.heap.size w w'
theorem str_app (a b : List UInt8) : str a ++ str b = str (a ++ b) := by
  apply ByteArray.ext; simp [str]
theorem str_one {s : ByteArray} {k : Nat} (h : k < s.size) : s.extract k (k + 1) = str [s[k]] := by
  have e : W8 (s.extract k (k + 1)) = [s[k]] := by
    have h1 : (W8 s)[k]? = some s[k] := at_of h
    unfold W8 at h1 ⊢
    rw [ByteArray.data_extract, Array.toList_extract]
    rw [List.extract_eq_take_drop, show k + 1 - k = 1 by omega, List.take_one, List.head?_drop, h1]
    rfl
  have : str (W8 (s.extract k (k + 1))) = str [s[k]] := by rw [e]
  exact this
theorem u8_int {a b : UInt8} (h : (a.toNat : Int) = b.toNat) : a = b := UInt8.toNat_inj.1 (by omega)

theorem lineOf_more {ln : List ByteArray} {P : List UInt8} (h : P ≠ []) : lineOf ln (str P) = ln ++ [str P] := by unfold lineOf; rw [w8_str, if_neg h]
theorem lineOf_same {ln : List ByteArray} {P : List UInt8} (h : P = []) : lineOf ln (str P) = ln := by unfold lineOf; rw [w8_str, if_pos h]

set_option maxRecDepth 100000 in
set_option maxHeartbeats 8000000 in
theorem lines_any' (s : ByteArray) (w : World) (hs : s.size ≤ 65536) : Calls Tryd.prog 32 #[.string s] w (LinesPost w (W8 s)) := by
  obtain ⟨i0, hi, hz0, hz1, hz2⟩ := info_parts Tryd.info9
  obtain ⟨j0, hj, hy0, hy1, hy2⟩ := info_parts Tryd.info35
  go_enter Tryd.func32, Tryd.ntmps32
  go_wp2
  go_loopw [3, 4, 5, 6] (fun v u wd i wr => ∃ (k : Nat) (P : List UInt8) (vs : List Value) (o : List (List ByteArray)) (ln : List ByteArray), k ≤ s.size + 1 ∧ i = .int .i64 k ∧ wd = .string (str P) ∧ P.length ≤ k ∧ o.length ≤ k ∧ ln.length ≤ k ∧
      (k ≤ s.size → Hid (StateAt ((W8 s).take k) o ln (str P))) ∧ (k = s.size + 1 → Hid (o.map (fun bs => bs.map W8) = linesW (W8 s))) ∧ Hid (LnIn wr w.heap.size v u vs o ln) ∧ Hid (Below w.heap.size w wr)) (fun _ _ _ i _ => s.size + 1 - (intOf i).toNat)
  case atStart => exact ⟨0, [], [], [], [], by omega, rfl, rfl, by simp, by simp, by simp, fun _ => ⟨false, rfl⟩, fun h => by omega, LnIn.first w _, Below.refl _ _⟩
  case round =>
    obtain ⟨k, P, vs, o, ln, hk, rfl, rfl, hPl, hol, hll, HSt, HFin, HL, HB⟩ := hrel
    have hws := HB.out.size
    have hss : (str P).size ≤ 65537 := by rw [str_size]; omega
    by_cases hlt : k < s.size
    · have HSt := HSt (by omega)
      clear HFin
      have h1 : (k : Int) < (s.size : Int) := by omega
      have h2 : (k : Int) ≤ (s.size : Int) := by omega
      have hat := at_of hlt
      by_cases hsep : NoSep s[k]
      · have HN := Lib.hid (HSt.out.letter hat hsep)
        have b1 : ((s[k].toNat : Int) != 32) = true := by rw [bne_iff_ne]; intro e; exact hsep.2.1 (u8_int e)
        have b2 : ((s[k].toNat : Int) != 9) = true := by rw [bne_iff_ne]; intro e; exact hsep.2.2 (u8_int e)
        have b3 : ((s[k].toNat : Int) != 10) = true := by rw [bne_iff_ne]; intro e; exact hsep.1 (u8_int e)
        have ht := str_one hlt
        have hap := str_app P
        have hs1 : (str [s[k]]).size = 1 := by rw [str_size]; rfl
        clear hat hsep HSt
        go_wp2
        go_roundw
        case rel => exact ⟨k + 1, P ++ [s[k]], vs, o, ln, by omega, by go_num, rfl, by simp; omega, by omega, by omega, fun _ => HN, fun h => by omega, HL, HB⟩
        case measure => simp [intOf]; omega
      · obtain ⟨a, c, d, b, rfl, rfl⟩ := HL.out.alloc
        by_cases h10 : s[k] = 10
        · rw [h10] at hat
          have b1 : ((s[k].toNat : Int) != 32) = true := by rw [h10]; rfl
          have b2 : ((s[k].toNat : Int) != 9) = true := by rw [h10]; rfl
          have b3 : ((s[k].toNat : Int) != 10) = false := by rw [h10]; rfl
          have b4 : ((s[k].toNat : Int) == 10) = true := by rw [h10]; rfl
          clear hsep h10
          by_cases hP0 : P = []
          · have e1 : (str P).toList = [] := by rw [toList_w8, w8_str]; exact hP0
            obtain ⟨w2, hw2⟩ : ∃ w2 : World, w2 = wr := ⟨_, rfl⟩
            subst hw2
            have HL2 := HL
            have HB2 := HB
            have HLO : Hid (lineOf ln (str P) = ln) := lineOf_same hP0
            clear HL HB
            have HN := Lib.hid (HSt.out.ends hat)
            rw [HLO.out] at HN
            have HN : Hid (StateAt ((W8 s).take (k + 1)) (o ++ [ln]) [] (str P)) := by rw [hP0]; exact HN
            clear hat HSt hP0 HLO
            have H3 := Lib.hid HL2.out.out
            have HX3 := fun ob v' w3 => Lib.hid (LnIn.close (w1 := w3) (v' := v') (ob := ob) HL2.out)
            go_wp2_with (at_builtin; refine wpList_append_own_at _ rfl _ _ 61 rfl w.heap.size 35 j0 (.slice none 0 0) 1 24 Tryd.underlying61 hj hy0 hy1 hy2 rfl (by decide) _ _ _ rfl (World.ownsRow.alloc H3.out _) ⟨w2.heap.size, 0, none⟩ 1 1 [.slice d ln.length b] rfl rfl (one_new rfl) one_slice ?e3 ?e4 ?e5 ?_)
            case e3 => unfold maxLen; omega
            case e4 => omega
            case e5 => simp; omega
            intro v3 w3 hown3 hgrow3 _ hat3
            obtain ⟨g3, cap3, rfl⟩ := Go.Joins.ownsRow_form hown3 (by omega)
            have HL3 := Lib.hid ((HX3 _ _ _).out hgrow3 hown3)
            have HB3 := Lib.hid ((HB2.out.alloc hws _).grown hgrow3 (by simp; omega) (fun j e => (World.ownsRow.lt H3.out j e).1))
            clear hown3 hgrow3 hat3 HX3 H3 HL2 HB2
            go_wp2
            go_roundw
            case rel => exact ⟨k + 1, P, _, o ++ [ln], [], by omega, by go_num, rfl, by omega, by simp; omega, by simp, fun _ => HN, fun h => by omega, HL3, HB3⟩
            case measure => simp [intOf]; omega
          · have hw0 : 0 < (str P).size := by rw [str_size]; exact List.length_pos_iff.2 hP0
            obtain ⟨e1, e2⟩ := not_empty hw0
            have H1 := Lib.hid HL.out.line
            have HX := fun ob u' w3 => Lib.hid (LnIn.push (w1 := w3) (u' := u') (x := str P) (ob := ob) HL.out)
            go_wp2_with (at_builtin; refine wpList_append_own_at _ rfl _ _ 35 rfl w.heap.size 9 i0 (.string ⟨#[]⟩) 1 16 Tryd.underlying35 hi hz0 hz1 hz2 rfl (by decide) _ _ _ rfl (World.ownsRow.alloc H1.out _) ⟨wr.heap.size, 0, none⟩ 1 1 [.string (str P)] rfl rfl (one_new rfl) one_string ?d3 ?d4 ?d5 ?_)
            case d3 => unfold maxLen; omega
            case d4 => omega
            case d5 => simp; omega
            intro u2 w2 hown2 hgrow2 _ hat2
            obtain ⟨g2, cap2, rfl⟩ := Go.Joins.ownsRow_form hown2 (by omega)
            have hL2 := (HX _ _ _).out hgrow2 (by simpa using hat2) hown2
            have HB2 := Lib.hid ((HB.out.alloc hws _).grown hgrow2 (by simp; omega) (fun j e => (World.ownsRow.lt H1.out j e).1))
            clear hown2 hgrow2 hat2 HX H1 HL HB hws
            have hws := HB2.out.size
            obtain ⟨ln2, hln2⟩ : ∃ l, ln ++ [str P] = l := ⟨_, rfl⟩
            have hl2 : ln.length + 1 = ln2.length := by rw [← hln2]; simp
            rw [hln2, hl2] at hL2
            rw [hl2]
            have HL2 := Lib.hid hL2
            have HLO : Hid (lineOf ln (str P) = ln2) := by unfold Hid; rw [lineOf_more hP0, hln2]
            clear hL2 hln2
            have HN := Lib.hid (HSt.out.ends hat)
            rw [HLO.out] at HN
            clear hat HSt hP0 HLO e1 e2 hw0
            have H3 := Lib.hid HL2.out.out
            have HX3 := fun ob v' w3 => Lib.hid (LnIn.close (w1 := w3) (v' := v') (ob := ob) HL2.out)
            go_wp2_with (at_builtin; refine wpList_append_own_at _ rfl _ _ 61 rfl w.heap.size 35 j0 (.slice none 0 0) 1 24 Tryd.underlying61 hj hy0 hy1 hy2 rfl (by decide) _ _ _ rfl (World.ownsRow.alloc H3.out _) ⟨w2.heap.size, 0, none⟩ 1 1 [.slice (some ⟨g2, 0, none⟩) ln2.length cap2] rfl rfl (one_new rfl) one_slice ?e3 ?e4 ?e5 ?_)
            case e3 => unfold maxLen; omega
            case e4 => omega
            case e5 => simp; omega
            intro v3 w3 hown3 hgrow3 _ hat3
            obtain ⟨g3, cap3, rfl⟩ := Go.Joins.ownsRow_form hown3 (by omega)
            have HL3 := Lib.hid ((HX3 _ _ _).out hgrow3 hown3)
            have HB3 := Lib.hid ((HB2.out.alloc hws _).grown hgrow3 (by simp; omega) (fun j e => (World.ownsRow.lt H3.out j e).1))
            clear hown3 hgrow3 hat3 HX3 H3 HL2 HB2
            go_wp2
            go_roundw
            case rel => exact ⟨k + 1, [], _, o ++ [ln2], [], by omega, by go_num, rfl, by simp, by simp; omega, by simp, fun _ => HN, fun h => by omega, HL3, HB3⟩
            case measure => simp [intOf]; omega
        · have hsep : s[k] = 32 ∨ s[k] = 9 := by
            by_cases h32 : s[k] = 32
            · exact .inl h32
            · by_cases h9 : s[k] = 9
              · exact .inr h9
              · exact absurd ⟨h10, h32, h9⟩ hsep
          have b4 : ((s[k].toNat : Int) == 10) = false := by rw [beq_eq_false_iff_ne]; intro e; exact h10 (u8_int e)
          have hb : ((s[k].toNat : Int) != 32) = false ∨ (((s[k].toNat : Int) != 32) = true ∧ ((s[k].toNat : Int) != 9) = false) := by
            rcases hsep with e | e <;> rw [e]
            · exact .inl rfl
            · exact .inr ⟨rfl, rfl⟩
          clear h10
          rcases hb with b1 | ⟨b1, b2⟩
          · skip
            by_cases hP0 : P = []
            · have e1 : (str P).toList = [] := by rw [toList_w8, w8_str]; exact hP0
              obtain ⟨w2, hw2⟩ : ∃ w2 : World, w2 = wr := ⟨_, rfl⟩
              subst hw2
              have HL2 := HL
              have HB2 := HB
              have HLO : Hid (lineOf ln (str P) = ln) := lineOf_same hP0
              clear HL HB
              have HN := Lib.hid (HSt.out.blank hat hsep)
              rw [HLO.out] at HN
              have HN : Hid (StateAt ((W8 s).take (k + 1)) o ln (str P)) := by rw [hP0]; exact HN
              clear hat hsep HSt hP0 HLO
              go_wp2
              go_roundw
              case rel => exact ⟨k + 1, P, vs, o, ln, by omega, by go_num, rfl, by omega, by omega, by omega, fun _ => HN, fun h => by omega, HL2, HB2⟩
              case measure => simp [intOf]; omega
            · have hw0 : 0 < (str P).size := by rw [str_size]; exact List.length_pos_iff.2 hP0
              obtain ⟨e1, e2⟩ := not_empty hw0
              have H1 := Lib.hid HL.out.line
              have HX := fun ob u' w3 => Lib.hid (LnIn.push (w1 := w3) (u' := u') (x := str P) (ob := ob) HL.out)
              go_wp2_with (at_builtin; refine wpList_append_own_at _ rfl _ _ 35 rfl w.heap.size 9 i0 (.string ⟨#[]⟩) 1 16 Tryd.underlying35 hi hz0 hz1 hz2 rfl (by decide) _ _ _ rfl (World.ownsRow.alloc H1.out _) ⟨wr.heap.size, 0, none⟩ 1 1 [.string (str P)] rfl rfl (one_new rfl) one_string ?d3 ?d4 ?d5 ?_)
              case d3 => unfold maxLen; omega
              case d4 => omega
              case d5 => simp; omega
              intro u2 w2 hown2 hgrow2 _ hat2
              obtain ⟨g2, cap2, rfl⟩ := Go.Joins.ownsRow_form hown2 (by omega)
              have hL2 := (HX _ _ _).out hgrow2 (by simpa using hat2) hown2
              have HB2 := Lib.hid ((HB.out.alloc hws _).grown hgrow2 (by simp; omega) (fun j e => (World.ownsRow.lt H1.out j e).1))
              clear hown2 hgrow2 hat2 HX H1 HL HB hws
              have hws := HB2.out.size
              obtain ⟨ln2, hln2⟩ : ∃ l, ln ++ [str P] = l := ⟨_, rfl⟩
              have hl2 : ln.length + 1 = ln2.length := by rw [← hln2]; simp
              rw [hln2, hl2] at hL2
              rw [hl2]
              have HL2 := Lib.hid hL2
              have HLO : Hid (lineOf ln (str P) = ln2) := by unfold Hid; rw [lineOf_more hP0, hln2]
              clear hL2 hln2
              have HN := Lib.hid (HSt.out.blank hat hsep)
              rw [HLO.out] at HN
              clear hat hsep HSt hP0 HLO e1 e2 hw0
              go_wp2
              go_roundw
              case rel => exact ⟨k + 1, [], vs, o, ln2, by omega, by go_num, rfl, by simp, by omega, by omega, fun _ => HN, fun h => by omega, HL2, HB2⟩
              case measure => simp [intOf]; omega
          · skip
            by_cases hP0 : P = []
            · have e1 : (str P).toList = [] := by rw [toList_w8, w8_str]; exact hP0
              obtain ⟨w2, hw2⟩ : ∃ w2 : World, w2 = wr := ⟨_, rfl⟩
              subst hw2
              have HL2 := HL
              have HB2 := HB
              have HLO : Hid (lineOf ln (str P) = ln) := lineOf_same hP0
              clear HL HB
              have HN := Lib.hid (HSt.out.blank hat hsep)
              rw [HLO.out] at HN
              have HN : Hid (StateAt ((W8 s).take (k + 1)) o ln (str P)) := by rw [hP0]; exact HN
              clear hat hsep HSt hP0 HLO
              go_wp2
              go_roundw
              case rel => exact ⟨k + 1, P, vs, o, ln, by omega, by go_num, rfl, by omega, by omega, by omega, fun _ => HN, fun h => by omega, HL2, HB2⟩
              case measure => simp [intOf]; omega
            · have hw0 : 0 < (str P).size := by rw [str_size]; exact List.length_pos_iff.2 hP0
              obtain ⟨e1, e2⟩ := not_empty hw0
              have H1 := Lib.hid HL.out.line
              have HX := fun ob u' w3 => Lib.hid (LnIn.push (w1 := w3) (u' := u') (x := str P) (ob := ob) HL.out)
              go_wp2_with (at_builtin; refine wpList_append_own_at _ rfl _ _ 35 rfl w.heap.size 9 i0 (.string ⟨#[]⟩) 1 16 Tryd.underlying35 hi hz0 hz1 hz2 rfl (by decide) _ _ _ rfl (World.ownsRow.alloc H1.out _) ⟨wr.heap.size, 0, none⟩ 1 1 [.string (str P)] rfl rfl (one_new rfl) one_string ?d3 ?d4 ?d5 ?_)
              case d3 => unfold maxLen; omega
              case d4 => omega
              case d5 => simp; omega
              intro u2 w2 hown2 hgrow2 _ hat2
              obtain ⟨g2, cap2, rfl⟩ := Go.Joins.ownsRow_form hown2 (by omega)
              have hL2 := (HX _ _ _).out hgrow2 (by simpa using hat2) hown2
              have HB2 := Lib.hid ((HB.out.alloc hws _).grown hgrow2 (by simp; omega) (fun j e => (World.ownsRow.lt H1.out j e).1))
              clear hown2 hgrow2 hat2 HX H1 HL HB hws
              have hws := HB2.out.size
              obtain ⟨ln2, hln2⟩ : ∃ l, ln ++ [str P] = l := ⟨_, rfl⟩
              have hl2 : ln.length + 1 = ln2.length := by rw [← hln2]; simp
              rw [hln2, hl2] at hL2
              rw [hl2]
              have HL2 := Lib.hid hL2
              have HLO : Hid (lineOf ln (str P) = ln2) := by unfold Hid; rw [lineOf_more hP0, hln2]
              clear hL2 hln2
              have HN := Lib.hid (HSt.out.blank hat hsep)
              rw [HLO.out] at HN
              clear hat hsep HSt hP0 HLO e1 e2 hw0
              go_wp2
              go_roundw
              case rel => exact ⟨k + 1, [], vs, o, ln2, by omega, by go_num, rfl, by simp, by omega, by omega, fun _ => HN, fun h => by omega, HL2, HB2⟩
              case measure => simp [intOf]; omega
    · by_cases hke : k = s.size
      · subst hke
        have HLast := Lib.hid ((HSt (Nat.le_refl _)).out)
        rw [List.take_of_length_le (by rw [w8_len]; exact Nat.le_refl _)] at HLast
        clear HSt HFin hlt
        obtain ⟨a, c, d, b, rfl, rfl⟩ := HL.out.alloc
        have h1 : (s.size : Int) ≤ (s.size : Int) := by omega
        have h2 : ¬ ((s.size : Int) < (s.size : Int)) := by omega
        have h3 : ((s.size : Int) == (s.size : Int)) = true := beq_iff_eq.2 rfl
        by_cases h0 : 0 < s.size
        · have hcat : W8 s = (W8 s).take (s.size - 1) ++ [s[s.size - 1]] := by
            have h4 := at_of (show s.size - 1 < s.size by omega)
            obtain ⟨h5, h6⟩ := List.getElem?_eq_some_iff.1 h4
            have h7 := List.take_succ_eq_append_getElem h5
            rw [h6, show s.size - 1 + 1 = s.size by omega, List.take_of_length_le (by rw [w8_len]; exact Nat.le_refl _)] at h7
            exact h7
          have h01 : (0 : Int) < (s.size : Int) := by omega
          by_cases hl : s[s.size - 1] = 10
          · have b5 : ((s[s.size - 1].toNat : Int) != 10) = false := by rw [hl]; rfl
            have HO : Hid (o.map (fun bs => bs.map W8) = linesW (W8 s)) := (HLast.out.last.2.1 _ _ hcat hl).symm
            clear hcat hl
            by_cases hP0 : P = []
            · have e1 : (str P).toList = [] := by rw [toList_w8, w8_str]; exact hP0
              obtain ⟨w2, hw2⟩ : ∃ w2 : World, w2 = wr := ⟨_, rfl⟩
              subst hw2
              have HL2 := HL
              have HB2 := HB
              have HLO : Hid (lineOf ln (str P) = ln) := lineOf_same hP0
              clear HL HB
              clear hP0 HLO HLast
              go_wp2
              go_roundw
              case rel => exact ⟨s.size + 1, P, vs, o, ln, by omega, by go_num, rfl, by omega, by omega, by omega, fun h => by omega, fun _ => HO, HL2, HB2⟩
              case measure => first | (simp [intOf]; done) | (simp [intOf]; omega)
            · have hw0 : 0 < (str P).size := by rw [str_size]; exact List.length_pos_iff.2 hP0
              obtain ⟨e1, e2⟩ := not_empty hw0
              have H1 := Lib.hid HL.out.line
              have HX := fun ob u' w3 => Lib.hid (LnIn.push (w1 := w3) (u' := u') (x := str P) (ob := ob) HL.out)
              go_wp2_with (at_builtin; refine wpList_append_own_at _ rfl _ _ 35 rfl w.heap.size 9 i0 (.string ⟨#[]⟩) 1 16 Tryd.underlying35 hi hz0 hz1 hz2 rfl (by decide) _ _ _ rfl (World.ownsRow.alloc H1.out _) ⟨wr.heap.size, 0, none⟩ 1 1 [.string (str P)] rfl rfl (one_new rfl) one_string ?d3 ?d4 ?d5 ?_)
              case d3 => unfold maxLen; omega
              case d4 => omega
              case d5 => first | omega | (simp; omega)
              intro u2 w2 hown2 hgrow2 _ hat2
              obtain ⟨g2, cap2, rfl⟩ := Go.Joins.ownsRow_form hown2 (by omega)
              have hL2 := (HX _ _ _).out hgrow2 (by simpa using hat2) hown2
              have HB2 := Lib.hid ((HB.out.alloc hws _).grown hgrow2 (by simp; omega) (fun j e => (World.ownsRow.lt H1.out j e).1))
              clear hown2 hgrow2 hat2 HX H1 HL HB hws
              have hws := HB2.out.size
              obtain ⟨ln2, hln2⟩ : ∃ l, ln ++ [str P] = l := ⟨_, rfl⟩
              have hl2 : ln.length + 1 = ln2.length := by rw [← hln2]; simp
              rw [hln2, hl2] at hL2
              rw [hl2]
              have HL2 := Lib.hid hL2
              have HLO : Hid (lineOf ln (str P) = ln2) := by unfold Hid; rw [lineOf_more hP0, hln2]
              clear hL2 hln2
              clear hP0 HLO HLast
              go_wp2
              go_roundw
              case rel => exact ⟨s.size + 1, [], vs, o, ln2, by omega, by go_num, rfl, by simp, by omega, by omega, fun h => by omega, fun _ => HO, HL2, HB2⟩
              case measure => first | (simp [intOf]; done) | (simp [intOf]; omega)
          · have b5 : ((s[s.size - 1].toNat : Int) != 10) = true := by rw [bne_iff_ne]; intro e; exact hl (u8_int e)
            have HO : Hid ((o ++ [lineOf ln (str P)]).map (fun bs => bs.map W8) = linesW (W8 s)) := (HLast.out.last.2.2 _ _ hcat hl).symm
            clear hcat hl
            by_cases hP0 : P = []
            · have e1 : (str P).toList = [] := by rw [toList_w8, w8_str]; exact hP0
              obtain ⟨w2, hw2⟩ : ∃ w2 : World, w2 = wr := ⟨_, rfl⟩
              subst hw2
              have HL2 := HL
              have HB2 := HB
              have HLO : Hid (lineOf ln (str P) = ln) := lineOf_same hP0
              clear HL HB
              have HO3 : Hid ((o ++ [ln]).map (fun bs => bs.map W8) = linesW (W8 s)) := by have := HO.out; rw [HLO.out] at this; exact this
              clear hP0 HLO HLast HO
              have H3 := Lib.hid HL2.out.out
              have HX3 := fun ob v' w3 => Lib.hid (LnIn.close (w1 := w3) (v' := v') (ob := ob) HL2.out)
              go_wp2_with (at_builtin; refine wpList_append_own_at _ rfl _ _ 61 rfl w.heap.size 35 j0 (.slice none 0 0) 1 24 Tryd.underlying61 hj hy0 hy1 hy2 rfl (by decide) _ _ _ rfl (World.ownsRow.alloc H3.out _) ⟨w2.heap.size, 0, none⟩ 1 1 [.slice d ln.length b] rfl rfl (one_new rfl) one_slice ?e3 ?e4 ?e5 ?_)
              case e3 => unfold maxLen; omega
              case e4 => omega
              case e5 => first | omega | (simp; omega)
              intro v3 w3 hown3 hgrow3 _ hat3
              obtain ⟨g3, cap3, rfl⟩ := Go.Joins.ownsRow_form hown3 (by omega)
              have HL3 := Lib.hid ((HX3 _ _ _).out hgrow3 hown3)
              have HB3 := Lib.hid ((HB2.out.alloc hws _).grown hgrow3 (by simp; omega) (fun j e => (World.ownsRow.lt H3.out j e).1))
              clear hown3 hgrow3 hat3 HX3 H3 HL2 HB2
              go_wp2
              go_roundw
              case rel => exact ⟨s.size + 1, P, _, o ++ [ln], [], by omega, by go_num, rfl, by omega, by simp; omega, by simp, fun h => by omega, fun _ => HO3, HL3, HB3⟩
              case measure => first | (simp [intOf]; done) | (simp [intOf]; omega)
            · have hw0 : 0 < (str P).size := by rw [str_size]; exact List.length_pos_iff.2 hP0
              obtain ⟨e1, e2⟩ := not_empty hw0
              have H1 := Lib.hid HL.out.line
              have HX := fun ob u' w3 => Lib.hid (LnIn.push (w1 := w3) (u' := u') (x := str P) (ob := ob) HL.out)
              go_wp2_with (at_builtin; refine wpList_append_own_at _ rfl _ _ 35 rfl w.heap.size 9 i0 (.string ⟨#[]⟩) 1 16 Tryd.underlying35 hi hz0 hz1 hz2 rfl (by decide) _ _ _ rfl (World.ownsRow.alloc H1.out _) ⟨wr.heap.size, 0, none⟩ 1 1 [.string (str P)] rfl rfl (one_new rfl) one_string ?d3 ?d4 ?d5 ?_)
              case d3 => unfold maxLen; omega
              case d4 => omega
              case d5 => first | omega | (simp; omega)
              intro u2 w2 hown2 hgrow2 _ hat2
              obtain ⟨g2, cap2, rfl⟩ := Go.Joins.ownsRow_form hown2 (by omega)
              have hL2 := (HX _ _ _).out hgrow2 (by simpa using hat2) hown2
              have HB2 := Lib.hid ((HB.out.alloc hws _).grown hgrow2 (by simp; omega) (fun j e => (World.ownsRow.lt H1.out j e).1))
              clear hown2 hgrow2 hat2 HX H1 HL HB hws
              have hws := HB2.out.size
              obtain ⟨ln2, hln2⟩ : ∃ l, ln ++ [str P] = l := ⟨_, rfl⟩
              have hl2 : ln.length + 1 = ln2.length := by rw [← hln2]; simp
              rw [hln2, hl2] at hL2
              rw [hl2]
              have HL2 := Lib.hid hL2
              have HLO : Hid (lineOf ln (str P) = ln2) := by unfold Hid; rw [lineOf_more hP0, hln2]
              clear hL2 hln2
              have HO3 : Hid ((o ++ [ln2]).map (fun bs => bs.map W8) = linesW (W8 s)) := by have := HO.out; rw [HLO.out] at this; exact this
              clear hP0 HLO HLast HO
              have H3 := Lib.hid HL2.out.out
              have HX3 := fun ob v' w3 => Lib.hid (LnIn.close (w1 := w3) (v' := v') (ob := ob) HL2.out)
              go_wp2_with (at_builtin; refine wpList_append_own_at _ rfl _ _ 61 rfl w.heap.size 35 j0 (.slice none 0 0) 1 24 Tryd.underlying61 hj hy0 hy1 hy2 rfl (by decide) _ _ _ rfl (World.ownsRow.alloc H3.out _) ⟨w2.heap.size, 0, none⟩ 1 1 [.slice (some ⟨g2, 0, none⟩) ln2.length cap2] rfl rfl (one_new rfl) one_slice ?e3 ?e4 ?e5 ?_)
              case e3 => unfold maxLen; omega
              case e4 => omega
              case e5 => first | omega | (simp; omega)
              intro v3 w3 hown3 hgrow3 _ hat3
              obtain ⟨g3, cap3, rfl⟩ := Go.Joins.ownsRow_form hown3 (by omega)
              have HL3 := Lib.hid ((HX3 _ _ _).out hgrow3 hown3)
              have HB3 := Lib.hid ((HB2.out.alloc hws _).grown hgrow3 (by simp; omega) (fun j e => (World.ownsRow.lt H3.out j e).1))
              clear hown3 hgrow3 hat3 HX3 H3 HL2 HB2
              go_wp2
              go_roundw
              case rel => exact ⟨s.size + 1, [], _, o ++ [ln2], [], by omega, by go_num, rfl, by simp, by simp; omega, by simp, fun h => by omega, fun _ => HO3, HL3, HB3⟩
              case measure => first | (simp [intOf]; done) | (simp [intOf]; omega)
        · have h01 : (s.size : Int) ≤ 0 := by omega
          have HO : Hid (o.map (fun bs => bs.map W8) = linesW (W8 s)) := (HLast.out.last.1 (List.eq_nil_of_length_eq_zero (by rw [w8_len]; omega))).symm
          clear h0
          by_cases hP0 : P = []
          · have e1 : (str P).toList = [] := by rw [toList_w8, w8_str]; exact hP0
            obtain ⟨w2, hw2⟩ : ∃ w2 : World, w2 = wr := ⟨_, rfl⟩
            subst hw2
            have HL2 := HL
            have HB2 := HB
            have HLO : Hid (lineOf ln (str P) = ln) := lineOf_same hP0
            clear HL HB
            clear hP0 HLO HLast
            go_wp2
            go_roundw
            case rel => exact ⟨s.size + 1, P, vs, o, ln, by omega, by go_num, rfl, by omega, by omega, by omega, fun h => by omega, fun _ => HO, HL2, HB2⟩
            case measure => first | (simp [intOf]; done) | (simp [intOf]; omega)
          · have hw0 : 0 < (str P).size := by rw [str_size]; exact List.length_pos_iff.2 hP0
            obtain ⟨e1, e2⟩ := not_empty hw0
            have H1 := Lib.hid HL.out.line
            have HX := fun ob u' w3 => Lib.hid (LnIn.push (w1 := w3) (u' := u') (x := str P) (ob := ob) HL.out)
            go_wp2_with (at_builtin; refine wpList_append_own_at _ rfl _ _ 35 rfl w.heap.size 9 i0 (.string ⟨#[]⟩) 1 16 Tryd.underlying35 hi hz0 hz1 hz2 rfl (by decide) _ _ _ rfl (World.ownsRow.alloc H1.out _) ⟨wr.heap.size, 0, none⟩ 1 1 [.string (str P)] rfl rfl (one_new rfl) one_string ?d3 ?d4 ?d5 ?_)
            case d3 => unfold maxLen; omega
            case d4 => omega
            case d5 => first | omega | (simp; omega)
            intro u2 w2 hown2 hgrow2 _ hat2
            obtain ⟨g2, cap2, rfl⟩ := Go.Joins.ownsRow_form hown2 (by omega)
            have hL2 := (HX _ _ _).out hgrow2 (by simpa using hat2) hown2
            have HB2 := Lib.hid ((HB.out.alloc hws _).grown hgrow2 (by simp; omega) (fun j e => (World.ownsRow.lt H1.out j e).1))
            clear hown2 hgrow2 hat2 HX H1 HL HB hws
            have hws := HB2.out.size
            obtain ⟨ln2, hln2⟩ : ∃ l, ln ++ [str P] = l := ⟨_, rfl⟩
            have hl2 : ln.length + 1 = ln2.length := by rw [← hln2]; simp
            rw [hln2, hl2] at hL2
            rw [hl2]
            have HL2 := Lib.hid hL2
            have HLO : Hid (lineOf ln (str P) = ln2) := by unfold Hid; rw [lineOf_more hP0, hln2]
            clear hL2 hln2
            clear hP0 HLO HLast
            go_wp2
            go_roundw
            case rel => exact ⟨s.size + 1, [], vs, o, ln2, by omega, by go_num, rfl, by simp, by omega, by omega, fun h => by omega, fun _ => HO, HL2, HB2⟩
            case measure => first | (simp [intOf]; done) | (simp [intOf]; omega)
      · have hke' : k = s.size + 1 := by omega
        have HFin := HFin hke'
        have h1 : (s.size : Int) < (k : Int) := by omega
        obtain ⟨a, c, d, b, rfl, rfl⟩ := HL.out.alloc
        have hR : WordRows wr w.heap.size (.slice none 0 0) vs o := fun j bs hj => by
          obtain ⟨a', c', g1, g2, g3⟩ := HL.out.rows j bs hj
          exact ⟨a', c', g1, g2, fun p e => ⟨(g3 p e).1, (g3 p e).2.1, by simp [Value.ownBlock]⟩⟩
        have HR := Lib.hid hR
        clear hR HSt hke hke' hlt
        go_wp2
        go_ret
        exact ⟨a, c, vs, o, rfl, HFin.out, HL.out.out, HR.out, HB.out⟩
end Go.Proofs.YtkannkalbhmlcaaDoor
