/-
  WordApplies' walk.
-/
import Derived.Test.YtldcekejbnhloaaDoorWWordAll
import Derived.Test.YtldcekejbnhloaaDoorRowHelp
namespace Go.Proofs.YtldcekejbnhloaaDoor
open Go.RowKit Go.Lib Ops Words
open Go.RowKit (Below)

theorem Tryd.info24 : (Tryd.prog.info? 24).map (fun i => (i.zero, i.size, i.bytes)) = some (some (.int .u64 0), 1, 8) := by kernel_rfl
/-- A slice of numbers that a call made itself, in blocks from B on. -/
def OwnN (w : World) (B : Nat) (v : Value) (ns : List Nat) : Prop := w.ownsRow B 24 1 v ns.length (ns.map fun n => Value.int .u64 ((n : Nat) : Int))
theorem OwnN.reads {w : World} {B : Nat} {v : Value} {zs : List Nat} (h : OwnN w B v zs) : ∃ a c, v = .slice a zs.length c ∧ NumsR w a zs := by
  obtain ⟨_, h | ⟨g, cap, cur, rfl, hg, hh, hn, hc, hs, ht⟩⟩ := h
  · obtain ⟨rfl, h0⟩ := h
    exact ⟨none, 0, by rw [h0], .inl h0⟩
  · refine ⟨_, cap, rfl, .inr ⟨g, 0, rfl, (Array.getElem?_eq_some_iff.1 hh).1, fun j hj => ?_⟩⟩
    have hjc : j < cur.size := by omega
    have h1 : cur.toList[j]? = some (Value.int .u64 ((zs.getD j 0 : Nat) : Int)) := by
      have h2 := congrArg (fun l : List Value => l[j]?) ht
      simp only [List.getElem?_take] at h2
      rw [if_pos (by omega)] at h2
      rw [h2, List.getElem?_map]; simp [List.getD, List.getElem?_eq_getElem hj]
    simp only [World.cell?, hh]
    simp only [Array.getElem?_toList] at h1
    simp [h1]
theorem take_more {α : Type} (zs : List α) (k : Nat) (x : α) (hx : zs[k]? = some x) : zs.take (k + 1) = zs.take k ++ [x] := by
  obtain ⟨hk, rfl⟩ := List.getElem?_eq_some_iff.1 hx
  exact List.take_succ_eq_append_getElem hk
theorem OwnN.of {w1 : World} {B n : Nat} {v' : Value} {ys : List Value} {zs : List Nat} (h : w1.ownsRow B 24 1 v' n ys) (hn : n = zs.length) (hy : ys = zs.map fun n => Value.int .u64 ((n : Nat) : Int)) : OwnN w1 B v' zs := by
  subst hn hy; exact h
theorem OwnN.below {w wr w1 : World} {B : Nat} {v : Value} {zs : List Nat} {o : Obj} (h : OwnN wr B v zs) (hb : Below B w wr) (hB : B ≤ wr.heap.size) (hg : (wr.alloc o).grownBy w1 v.ownBlock) : Below B w w1 :=
  (hb.alloc hB o).grown hg (by simp; omega) (fun k hk => (h.lt k hk).1)
theorem Words.NumsR.at {w : World} {a : Option Addr} {zs : List Nat} (h : NumsR w a zs) {k : Nat} (hk : k < zs.length) :
    ∃ b off x, a = some ⟨b, off, none⟩ ∧ Hid (zs[k]? = some x) ∧ w.cell? ⟨b, off + k, none⟩ = some (.int .u64 ((x : Nat) : Int)) := by
  rcases h with h | ⟨b, off, ha, _, hc⟩
  · omega
  · exact ⟨b, off, zs.getD k 0, ha, by simp [Hid, List.getD, List.getElem?_eq_getElem hk], hc k hk⟩
set_option maxHeartbeats 400000 in
theorem copyNums_any (c : Option Addr) (cc : Nat) (zs : List Nat) (w : World) (hm : zs.length * 8 ≤ 140737488351232) (h : NumsR w c zs) :
    Calls Tryd.prog 14 #[.slice c zs.length cc] w fun e w' => ∃ v, e = .returned v ∧ OwnN w' w.heap.size v zs ∧ Below w.heap.size w w' := by
  obtain ⟨i0, hi, hz0, hz1, hz2⟩ := info_parts Tryd.info24
  go_enter Tryd.func14, Tryd.ntmps14
  go_wp2
  go_loopw [3, 4] (fun v i wr => ∃ k : Nat, k ≤ zs.length ∧ i = .int .i64 k ∧ OwnN wr w.heap.size v (zs.take k) ∧ Below w.heap.size w wr) (fun _ i _ => zs.length - (intOf i).toNat)
  case atStart => exact ⟨0, Nat.zero_le _, rfl, World.ownsRow_nil _ _ _ _, Below.refl _ _⟩
  case round =>
    obtain ⟨k, hk, rfl, hown, hbel⟩ := hrel
    have hsz := hbel.size
    by_cases hlt : k < zs.length
    · obtain ⟨b, off, x, rfl, hx, hcell⟩ := (h.below hbel).at hlt
      clear h
      have hl : (zs.take k).length = k := by simp; omega
      have HO := Lib.hid hown
      have HB := Lib.hid hbel
      have HL := Lib.hid hl
      clear hown hbel hl
      go_wp2_with (at_builtin; refine wpList_append_own _ rfl _ _ 22 rfl w.heap.size 24 i0 (.int .u64 0) 1 8 Tryd.underlying22 hi hz0 hz1 hz2 rfl (by decide) _ _ _ rfl (World.ownsRow.alloc HO.out _) ⟨wr.heap.size, 0, none⟩ 1 1 [.int .u64 (x : Int)] rfl rfl ?c1 ?c2 ?c3 ?c4 ?c5 ?_)
      case c1 =>
        intro j u hj
        match j, hj with
        | 0, hj => simp at hj; subst hj; simp [Addr.add]
      case c2 => intro u hu; simp at hu; subst hu; rfl
      case c3 => rw [HL.out]; unfold maxLen; omega
      case c4 => rw [HL.out]; omega
      case c5 => simp; omega
      intro v' w1 hown' hgrow _
      have R1 := Lib.hid (OwnN.of (zs := zs.take (k + 1)) hown' (by simp; omega) (by rw [take_more _ _ _ hx.out]; simp))
      have R2 := Lib.hid (OwnN.below HO.out HB.out hsz hgrow)
      clear hown' hgrow HO HB
      go_wp2
      go_roundw
      case rel => exact ⟨k + 1, by omega, by go_num, R1.out, R2.out⟩
      case measure => simp [intOf]; omega
    · have hkl : zs.take k = zs := List.take_of_length_le (by omega)
      rw [hkl] at hown
      clear hkl
      go_wp2
      go_ret
      exact ⟨_, rfl, hown, hbel⟩
theorem nums_of {w : World} {a : Option Addr} {zs : List Int} (h : KIntsR .u64 w a zs) (hw : ∀ n ∈ zs, (Lit.int .u64 n).wf = true) : ∃ ns : List Nat, ns.length = zs.length ∧ NumsR w a ns ∧ ∀ n ∈ ns, n < 18446744073709551616 := by
  refine ⟨zs.map Int.toNat, by simp, ?_, ?_⟩
  · rcases h with h | ⟨b, off, ha, hs, hc⟩
    · left; simpa using h
    · refine .inr ⟨b, off, ha, hs, fun j hj => ?_⟩
      have hj' : j < zs.length := by simpa using hj
      rw [hc j hj']
      obtain ⟨v, hv, _⟩ := u64_nat (hw zs[j] (List.getElem_mem hj'))
      simp [List.getD, List.getElem?_eq_getElem hj']
      omega
  · intro n hn
    obtain ⟨z, hz, rfl⟩ := List.mem_map.1 hn
    obtain ⟨v, rfl, hv⟩ := u64_nat (hw z hz)
    omega
set_option maxRecDepth 20000 in
set_option maxHeartbeats 4000000 in
theorem wordApplies_walk (w : World) (x : Int) (hx : (Lit.int .u8 x).wf = true) (n : Int) (_ : (Lit.int .i64 n).wf = true) (a : Option Addr) (c : Nat) (zs : List Int) (hR : KIntsR .u64 w a zs) (hwf : ∀ n ∈ zs, (Lit.int .u64 n).wf = true) (hm : zs.length ≤ maxLen) (he : Env w) :
    Calls Tryd.prog 3 #[.int .u8 x, .int .i64 n, .slice a zs.length c] w fun e w' => e = .returned (.bool true) ∧ Below w.heap.size w w' := by
  obtain ⟨o, rfl, ho⟩ : ∃ v : Nat, x = v ∧ v ≤ 255 := by have := u8_range hx; exact ⟨x.toNat, by omega, by omega⟩
  obtain ⟨ns, hl, hN, hn⟩ := nums_of hR hwf
  unfold maxLen at hm
  rw [← hl] at hm ⊢
  have HE := Lib.hid he
  have KN : Hid (∀ W, Below w.heap.size w W → Calls Tryd.prog 12 #[] W fun e w' => e = .returned (.bool true) ∧ Below w.heap.size w w') := fun W hW => (Words.known_any W (HE.out.below hW)).mono fun e w' ⟨h, hb⟩ => ⟨h, hW.trans (hb.mono hW.size)⟩
  clear hl hR hwf hx he
  by_cases hb : 10 < ns.length
  · have KN0 := Lib.hid (KN.out w (Below.refl _ _))
    clear hN hn KN
    go_enter Tryd.func3, Tryd.ntmps3
    go_wp2_with (go_at_call 12; refine KN0.out.mono ?_; rintro e w3 ⟨rfl, hB⟩; have HB3 := Lib.hid hB; clear hB)
    go_ret
    exact ⟨rfl, HB3.out⟩
  · have hb2 : ¬ (10 : Int) < (ns.length : Int) := by omega
    obtain ⟨V, hV⟩ : ∃ V, apV o n ns = V := ⟨_, rfl⟩
    obtain ⟨F, hF⟩ : ∃ V, apE o n ns.length = V := ⟨_, rfl⟩
    have KC := Lib.hid (copyNums_any a c ns w (by omega) hN)
    have K1 : Hid (∀ W ad cc, Below w.heap.size w W → NumsR W ad ns → Calls Tryd.prog 13 #[.int .u8 (o : Int), .int .i64 n, .slice ad ns.length cc] W fun e w' => e = .returned (.tuple #[.int .u64 (V : Int), .int .i64 F]) ∧ Below W.heap.size W w') := fun W ad cc hW hNW => apply_len rfl hV hF ho hn (by unfold maxLen; omega) ad cc W hNW (HE.out.below hW)
    have K2 : Hid (∀ W, Below w.heap.size w W → Calls Tryd.prog 15 #[.int .u8 (o : Int), .int .i64 n, .slice a ns.length c] W fun e w' => e = .returned (.tuple #[.int .u64 (V : Int), .int .i64 F]) ∧ W = w') := fun W hW => rapply_len rfl hV hF ho hn (by unfold maxLen; omega) a c W (hN.below hW)
    clear hV hF hN hn hm
    go_enter Tryd.func3, Tryd.ntmps3
    go_wp2_with (first | (go_at_call 14; refine KC.out.mono ?_; rintro e w1 ⟨v, rfl, hO, hB⟩; obtain ⟨ad, cc, rfl, hNN⟩ := hO.reads; have HB1 := Lib.hid hB; have HNN := Lib.hid hNN; clear hB hNN hO) | (go_at_call 13; refine (K1.out _ _ _ HB1.out HNN.out).mono ?_; rintro e w2 ⟨rfl, hB⟩; have HB2 := Lib.hid (HB1.out.trans (hB.mono HB1.out.size)); clear hB) | (go_at_call 15; refine (K2.out _ HB2.out).mono ?_; rintro e w' ⟨rfl, rfl⟩) | (go_at_call 12; refine (KN.out _ HB2.out).mono ?_; rintro e w3 ⟨rfl, hB⟩; have HB3 := Lib.hid hB; clear hB))
    go_ret
    exact ⟨rfl, HB3.out⟩
end Go.Proofs.YtldcekejbnhloaaDoor
