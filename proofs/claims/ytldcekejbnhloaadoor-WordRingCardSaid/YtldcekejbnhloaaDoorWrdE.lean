/-
  Layer word: the result of an operator for the numbers of a list.
-/
import Derived.Test.YtldcekejbnhloaaDoorWrdD
set_option linter.unusedSectionVars false
set_option linter.unusedVariables false
namespace Go.Proofs.YtldcekejbnhloaaDoor.Words
open Go.RowKit Go.Lib
open Go.RowKit (Below)

/-- The address a holds the numbers ns, each of 64 bits. -/
def NumsR (w : World) (a : Option Addr) (ns : List Nat) : Prop :=
  ns.length = 0 ∨ ∃ b off, a = some ⟨b, off, none⟩ ∧ b < w.heap.size ∧ ∀ j, j < ns.length → w.cell? ⟨b, off + j, none⟩ = some (.int .u64 ((ns.getD j 0 : Nat) : Int))
theorem NumsR.below {w w' : World} {a : Option Addr} {ns : List Nat} (h : NumsR w a ns) (hb : Below w.heap.size w w') : NumsR w' a ns := by
  rcases h with h | ⟨b, off, ha, hs, hc⟩
  · exact .inl h
  · exact .inr ⟨b, off, ha, Nat.lt_of_lt_of_le hs hb.size, fun j hj => by rw [hb.cell (p := ⟨b, off + j, none⟩) hs]; exact hc j hj⟩
theorem NumsR.low {w w' : World} {a : Option Addr} {ns : List Nat} {B : Nat} (h : NumsR w a ns) (hb : Below B w w') (hB : ∀ b off, a = some ⟨b, off, none⟩ → b < B) : NumsR w' a ns := by
  rcases h with h | ⟨b, off, ha, hs, hc⟩
  · exact .inl h
  · exact .inr ⟨b, off, ha, Nat.lt_of_lt_of_le hs hb.size, fun j hj => by rw [hb.cell (p := ⟨b, off + j, none⟩) (hB b off ha)]; exact hc j hj⟩
theorem NumsR.look {w : World} {a : Option Addr} {ns : List Nat} (h : NumsR w a ns) (hl : 0 < ns.length) : ∃ b off, a = some ⟨b, off, none⟩ ∧ b < w.heap.size ∧ ∀ j, j < ns.length → w.cell? ⟨b, off + j, none⟩ = some (.int .u64 ((ns.getD j 0 : Nat) : Int)) := by
  rcases h with h | h
  · omega
  · exact h
theorem NumsR.lit (w : World) (vs : Array Value) (T : TypeId) (ns : List Nat) {b : Nat} (hb : b = w.heap.size) (h : vs.toList = ns.map fun n => Value.int .u64 ((n : Nat) : Int)) : NumsR (w.alloc (.cells vs T)) (some ⟨b, 0, none⟩) ns := by
  subst hb
  refine .inr ⟨w.heap.size, 0, rfl, by simp, fun j hj => ?_⟩
  rw [World.cell?_alloc_at _ _ _ _ rfl, Nat.zero_add, ← Array.getElem?_toList, h, List.getElem?_map]
  simp [List.getD, List.getElem?_eq_getElem hj]

theorem enter_of {P : Program} {f : FuncId} {fn : Func} {c : Code} (hf : P.funcs[f]? = some fn) (hname : (fn.name == "runtime.NumGoroutine") = false) (hb : fn.body = some c) (args : Array Value) (w : World) :
    (callFunc f args).run P w = .ok (.enter f args) w := by
  have h1 : fn.name ≠ "runtime.NumGoroutine" := by simpa using hname
  simp [callFunc, hf, h1, hb]
/-- What the table holds can be called. -/
theorem m_enter (j : Nat) (hj : j < 20) (args : Array Value) (w : World) : (callFunc (mTab.getD j 0) args).run Tryd.prog w = .ok (.enter (mTab.getD j 0) args) w := by
  rcases j with _ | _ | _ | _ | _ | _ | _ | _ | _ | _ | _ | _ | _ | _ | _ | _ | _ | _ | _ | _ | j
  · exact enter_of Tryd.func40 (by kernel_rfl) rfl args w
  · exact enter_of Tryd.func41 (by kernel_rfl) rfl args w
  · exact enter_of Tryd.func42 (by kernel_rfl) rfl args w
  · exact enter_of Tryd.func43 (by kernel_rfl) rfl args w
  · exact enter_of Tryd.func44 (by kernel_rfl) rfl args w
  · exact enter_of Tryd.func45 (by kernel_rfl) rfl args w
  · exact enter_of Tryd.func46 (by kernel_rfl) rfl args w
  · exact enter_of Tryd.func47 (by kernel_rfl) rfl args w
  · exact enter_of Tryd.func48 (by kernel_rfl) rfl args w
  · exact enter_of Tryd.func49 (by kernel_rfl) rfl args w
  · exact enter_of Tryd.func50 (by kernel_rfl) rfl args w
  · exact enter_of Tryd.func51 (by kernel_rfl) rfl args w
  · exact enter_of Tryd.func52 (by kernel_rfl) rfl args w
  · exact enter_of Tryd.func53 (by kernel_rfl) rfl args w
  · exact enter_of Tryd.func54 (by kernel_rfl) rfl args w
  · exact enter_of Tryd.func55 (by kernel_rfl) rfl args w
  · exact enter_of Tryd.func56 (by kernel_rfl) rfl args w
  · exact enter_of Tryd.func57 (by kernel_rfl) rfl args w
  · exact enter_of Tryd.func58 (by kernel_rfl) rfl args w
  · exact enter_of Tryd.func59 (by kernel_rfl) rfl args w
  · omega
section
variable {W : Nat} (h1 : 1 ≤ W) (h : W ≤ 64)
include h1 h
theorem m_all1 (o : Nat) (h2 : 2 ≤ o) (h4 : o < 4) {a b c : Nat} (ha : a < 2 ^ W) (w : World) : Calls Tryd.prog (mTab.getD (o - 2) 0) #[W2 W a] w fun e w' => Raw W o a b c e ∧ Below w.heap.size w w' := by
  rcases (show o = 2 ∨ o = 3 by omega) with rfl | rfl
  · exact m_not h1 h ha w
  · exact m_neg h1 h ha w
theorem m_all2 (o : Nat) (h2 : 4 ≤ o) (h4 : o < 21) {a b c : Nat} (ha : a < 2 ^ W) (hb : b < 2 ^ W) (w : World) : Calls Tryd.prog (mTab.getD (o - 2) 0) #[W2 W a, W2 W b] w fun e w' => Raw W o a b c e ∧ Below w.heap.size w w' := by
  rcases (show o = 4 ∨ o = 5 ∨ o = 6 ∨ o = 7 ∨ o = 8 ∨ o = 9 ∨ o = 10 ∨ o = 11 ∨ o = 12 ∨ o = 13 ∨ o = 14 ∨ o = 15 ∨ o = 16 ∨ o = 17 ∨ o = 18 ∨ o = 19 ∨ o = 20 by omega) with rfl | rfl | rfl | rfl | rfl | rfl | rfl | rfl | rfl | rfl | rfl | rfl | rfl | rfl | rfl | rfl | rfl
  · exact m_add h1 h ha hb w
  · exact m_sub h1 h ha hb w
  · exact m_mul h1 h ha hb w
  · exact m_div h1 h ha hb w
  · exact m_rem h1 h ha hb w
  · exact m_and h1 h ha hb w
  · exact m_or h1 h ha hb w
  · exact m_xor h1 h ha hb w
  · exact m_shl h1 h ha hb w
  · exact m_shr h1 h ha hb w
  · exact m_sar h1 h ha hb w
  · exact m_eq h1 h ha hb w
  · exact m_ne h1 h ha hb w
  · exact m_lt h1 h ha hb w
  · exact m_le h1 h ha hb w
  · exact m_slt h1 h ha hb w
  · exact m_sle h1 h ha hb w
set_option maxRecDepth 20000 in
set_option maxHeartbeats 4000000 in
theorem raw_one (o : Nat) (h2 : 2 ≤ o) (h4 : o < 4) (x : Nat) (hx : x < 18446744073709551616) (ad : Option Addr) (c : Nat) (w : World) (hN : NumsR w ad [x]) :
    Calls Tryd.prog 30 #[.int .u8 (o : Int), .int .i64 (W : Int), .slice ad 1 c] w fun e w' => Raw W o (x % 2 ^ W) 0 0 e ∧ Below w.heap.size w w' := by
  obtain ⟨bk, off, rfl, hlt, hc⟩ := hN.look (by simp)
  have HX : Hid (∀ w', Below w.heap.size w w' → w'.cell? ⟨bk, off, none⟩ = some (.int .u64 (x : Int))) := fun w' hb => (hb.cell (p := ⟨bk, off, none⟩) hlt).trans (hc 0 (by simp))
  have KC : Hid (∀ w', Calls Tryd.prog 37 #[.int .u8 (o : Int)] w' fun e w2 => e = .returned (.agg #[mOf o, .nilFunc, .nilFunc]) ∧ Below w'.heap.size w' w2) := fun w' => by
    have := calc_is o h2 (by omega) w'
    rcases calc_cases o h2 (by omega) with ⟨_, he⟩ | ⟨h5, _, _⟩ | ⟨h5, _⟩
    · rwa [he] at this
    · omega
    · omega
  have KT : Hid (∀ w', Calls Tryd.prog 29 #[.int .i64 (W : Int), .int .u64 (x : Int)] w' fun e w2 => e = .returned (W2 W (x % 2 ^ W)) ∧ Below w'.heap.size w' w2) := fun w' => trimmed_is h1 h x hx w'
  have KM : Hid (∀ w', Calls Tryd.prog (mTab.getD (o - 2) 0) #[W2 W (x % 2 ^ W)] w' fun e w2 => Raw W o (x % 2 ^ W) 0 0 e ∧ Below w'.heap.size w' w2) := fun w' => m_all1 h1 h o h2 h4 (Nat.mod_lt _ (two_pos W)) w'
  have CF : ∀ args w', (callFunc (mTab.getD (o - 2) 0) args).run Tryd.prog w' = .ok (.enter (mTab.getD (o - 2) 0) args) w' := fun args w' => m_enter (o - 2) (by omega) args w'
  unfold mOf W2 at *
  obtain ⟨k, hk⟩ : ∃ k, mTab.getD (o - 2) 0 = k := ⟨_, rfl⟩
  obtain ⟨r, hr⟩ : ∃ r, x % 2 ^ W = r := ⟨_, rfl⟩
  rw [hk] at KC KM CF
  rw [hr] at KT KM ⊢
  clear hk hr h1 h h2 h4 hx hc hN
  go_enter Tryd.func30, Tryd.ntmps30
  go_wp2_with fail
  refine (KC.out _).mono ?_
  rintro e w1 ⟨rfl, hB1⟩
  have HB1 := Lib.hid (hB1.alloc hB1.size (Obj.cells #[Value.func (Fn.func k) #[] #[], Value.nilFunc, Value.nilFunc] 68))
  have c1 := HX.out _ HB1.out
  have F1 := Lib.hid (heap_alloc_new w1 (Obj.cells #[Value.func (Fn.func k) #[] #[], Value.nilFunc, Value.nilFunc] 68))
  clear hB1
  go_wp2_with fail
  refine (KT.out _).mono ?_
  rintro e w2 ⟨rfl, hB2⟩
  have HB2 := Lib.hid ((HB1.out.trans (hB2.mono HB1.out.size)).alloc (Nat.le_trans HB1.out.size hB2.size) (Obj.cells #[Value.int .i64 (W : Int), Value.int .u64 (r : Int)] 55))
  have F2 : Hid ((w2.alloc (Obj.cells #[Value.int .i64 (W : Int), Value.int .u64 (r : Int)] 55)).heap[w1.heap.size]? = some (Obj.cells #[Value.func (Fn.func k) #[] #[], Value.nilFunc, Value.nilFunc] 68)) := by
    unfold Hid
    rw [Below.heap_alloc _ _ _ (by have := hB2.size; simp at this; omega)]
    exact (hB2.block _ (by simp)).trans F1.out
  have d0 : (w2.alloc (Obj.cells #[Value.int .i64 (W : Int), Value.int .u64 (r : Int)] 55)).cell? ⟨w1.heap.size, 0, none⟩ = some (.func (.func k) #[] #[]) := by unfold World.cell?; rw [F2.out]; rfl
  clear hB2 F1 HB1 c1
  go_wp2_with fail
  refine (KM.out _).mono ?_
  rintro e w3 ⟨⟨q, rfl, hq⟩, hB3⟩
  have HB3 := Lib.hid (HB2.out.trans (hB3.mono HB2.out.size))
  have HQ := Lib.hid hq
  clear hB3 hq
  go_wp2
  go_ret
  exact ⟨⟨q, rfl, HQ.out⟩, HB3.out⟩
theorem m_all3 (o : Nat) (h2 : 21 ≤ o) (h4 : o < 22) {a b c : Nat} (ha : a < 2 ^ W) (hb : b < 2 ^ W) (hc : c < 2 ^ W) (w : World) : Calls Tryd.prog (mTab.getD (o - 2) 0) #[W2 W a, W2 W b, W2 W c] w fun e w' => Raw W o a b c e ∧ Below w.heap.size w w' := by
  obtain rfl : o = 21 := by omega
  exact m_ite h1 h ha hb hc w
set_option maxRecDepth 20000 in
set_option maxHeartbeats 8000000 in
theorem raw_two (o : Nat) (h2 : 4 ≤ o) (h4 : o < 21) (x : Nat) (hx : x < 18446744073709551616) (y : Nat) (hy : y < 18446744073709551616) (ad : Option Addr) (c : Nat) (w : World) (hN : NumsR w ad [x, y]) :
    Calls Tryd.prog 30 #[.int .u8 (o : Int), .int .i64 (W : Int), .slice ad 2 c] w fun e w' => Raw W o (x % 2 ^ W) (y % 2 ^ W) 0 e ∧ Below w.heap.size w w' := by
  obtain ⟨bk, off, rfl, hlt, hc⟩ := hN.look (by simp)
  have HX0 : Hid (∀ w', Below w.heap.size w w' → w'.cell? ⟨bk, off, none⟩ = some (.int .u64 (x : Int))) := fun w' hb => (hb.cell (p := ⟨bk, off, none⟩) hlt).trans (hc 0 (by simp))
  have HX1 : Hid (∀ w', Below w.heap.size w w' → w'.cell? ⟨bk, off + 1, none⟩ = some (.int .u64 (y : Int))) := fun w' hb => (hb.cell (p := ⟨bk, off + 1, none⟩) hlt).trans (hc 1 (by simp))
  have KC : Hid (∀ w', Calls Tryd.prog 37 #[.int .u8 (o : Int)] w' fun e w2 => e = .returned (.agg #[.nilFunc, mOf o, .nilFunc]) ∧ Below w'.heap.size w' w2) := fun w' => by
    have := calc_is o (by omega) (by omega) w'
    rcases calc_cases o (by omega) (by omega) with ⟨h5, he⟩ | ⟨h5, h6, he⟩ | ⟨h5, he⟩
    · omega
    · rwa [he] at this
    · omega
  have KT0 : Hid (∀ w', Calls Tryd.prog 29 #[.int .i64 (W : Int), .int .u64 (x : Int)] w' fun e w2 => e = .returned (W2 W (x % 2 ^ W)) ∧ Below w'.heap.size w' w2) := fun w' => trimmed_is h1 h x hx w'
  have KT1 : Hid (∀ w', Calls Tryd.prog 29 #[.int .i64 (W : Int), .int .u64 (y : Int)] w' fun e w2 => e = .returned (W2 W (y % 2 ^ W)) ∧ Below w'.heap.size w' w2) := fun w' => trimmed_is h1 h y hy w'
  have KM : Hid (∀ w', Calls Tryd.prog (mTab.getD (o - 2) 0) #[W2 W (x % 2 ^ W), W2 W (y % 2 ^ W)] w' fun e w2 => Raw W o (x % 2 ^ W) (y % 2 ^ W) 0 e ∧ Below w'.heap.size w' w2) := fun w' => m_all2 h1 h o h2 h4 (Nat.mod_lt _ (two_pos W)) (Nat.mod_lt _ (two_pos W)) w'
  have CF : ∀ args w', (callFunc (mTab.getD (o - 2) 0) args).run Tryd.prog w' = .ok (.enter (mTab.getD (o - 2) 0) args) w' := fun args w' => m_enter (o - 2) (by omega) args w'
  unfold mOf W2 at *
  obtain ⟨k, hk⟩ : ∃ k, mTab.getD (o - 2) 0 = k := ⟨_, rfl⟩
  obtain ⟨r, hrr⟩ : ∃ r, x % 2 ^ W = r := ⟨_, rfl⟩
  obtain ⟨s, hss⟩ : ∃ r, y % 2 ^ W = r := ⟨_, rfl⟩
  rw [hk] at KC KM CF
  rw [hrr] at KT0 KM ⊢
  rw [hss] at KT1 KM ⊢
  clear hk hrr hss h1 h h2 h4 hx hy hc hN
  go_enter Tryd.func30, Tryd.ntmps30
  go_wp2_with fail
  refine (KC.out _).mono ?_
  rintro e w1 ⟨rfl, hB1⟩
  have HB1 := Lib.hid (hB1.alloc hB1.size (Obj.cells #[Value.nilFunc, Value.func (Fn.func k) #[] #[], Value.nilFunc] 68))
  have c1 := HX0.out _ HB1.out
  have F1 := Lib.hid (heap_alloc_new w1 (Obj.cells #[Value.nilFunc, Value.func (Fn.func k) #[] #[], Value.nilFunc] 68))
  clear hB1
  go_wp2_with fail
  refine (KT0.out _).mono ?_
  rintro e w2 ⟨rfl, hB2⟩
  have HB2 := Lib.hid ((HB1.out.trans (hB2.mono HB1.out.size)).alloc (Nat.le_trans HB1.out.size hB2.size) (Obj.cells #[Value.int .i64 (W : Int), Value.int .u64 (r : Int)] 55))
  have F2 : Hid ((w2.alloc (Obj.cells #[Value.int .i64 (W : Int), Value.int .u64 (r : Int)] 55)).heap[w1.heap.size]? = some (Obj.cells #[Value.nilFunc, Value.func (Fn.func k) #[] #[], Value.nilFunc] 68)) := by
    unfold Hid
    rw [Below.heap_alloc _ _ _ (by have := hB2.size; simp at this; omega)]
    exact (hB2.block _ (by simp)).trans F1.out
  have X2 : Hid (Box (w2.alloc (Obj.cells #[Value.int .i64 (W : Int), Value.int .u64 (r : Int)] 55)) w2.heap.size W r) := Box.new w2 W r
  have hlt2 : w1.heap.size < (w2.alloc (Obj.cells #[Value.int .i64 (W : Int), Value.int .u64 (r : Int)] 55)).heap.size := (Array.getElem?_eq_some_iff.1 F2.out).1
  clear hB2 F1 HB1 c1
  obtain ⟨wl, hwl⟩ : ∃ wl, w2.alloc (Obj.cells #[Value.int .i64 (W : Int), Value.int .u64 (r : Int)] 55) = wl := ⟨_, rfl⟩
  rw [hwl] at HB2 F2 X2 hlt2
  have HH : Hid (∀ W', Hid (Below wl.heap.size wl W') → W'.cell? ⟨w1.heap.size, 1, none⟩ = some (.func (.func k) #[] #[]) ∧ W'.cell? ⟨w2.heap.size, 0, none⟩ = some (.int .i64 (W : Int)) ∧ W'.cell? ⟨w2.heap.size, 1, none⟩ = some (.int .u64 (r : Int)) ∧ W'.cell? ⟨bk, off + 1, none⟩ = some (.int .u64 (y : Int)) ∧ Hid (Below wl.heap.size wl W')) := fun W' hW => ⟨by have := (hW.out.block _ hlt2).trans F2.out; unfold World.cell?; rw [this]; rfl, (X2.out.below hW.out X2.out.lt).c0, (X2.out.below hW.out X2.out.lt).c1, HX1.out _ (HB2.out.trans (hW.out.mono HB2.out.size)), hW⟩
  have HD : Hid (Below wl.heap.size wl wl.drew) := (Below.refl _ _).drew
  have KU1 : Hid (∀ W', Hid (Below wl.heap.size wl W') → Calls Tryd.prog 29 #[.int .i64 (W : Int), .int .u64 (y : Int)] W' fun e w2 => e = .returned (.agg #[.int .i64 (W : Int), .int .u64 (s : Int)]) ∧ Hid (Below wl.heap.size wl w2)) := fun W' hW => (KT1.out W').mono fun e w' ⟨he, hb⟩ => ⟨he, hW.out.trans (hb.mono hW.out.size)⟩
  have KV : Hid (∀ W', Hid (Below wl.heap.size wl W') → Calls Tryd.prog k #[.agg #[.int .i64 (W : Int), .int .u64 (r : Int)], .agg #[.int .i64 (W : Int), .int .u64 (s : Int)]] W' fun e w2 => (∃ q : Nat, e = .returned (.int .u64 (q : Int)) ∧ Hid (q < 18446744073709551616 ∧ q % 2 ^ W = res W o r s 0)) ∧ Hid (Below wl.heap.size wl w2)) := fun W' hW => (KM.out W').mono fun e w' ⟨he, hb⟩ => ⟨he, hW.out.trans (hb.mono hW.out.size)⟩
  clear hlt2 F2 X2
  go_wp2
  go_region_held3 (fun W' => W'.cell? ⟨w1.heap.size, 1, none⟩ = some (.func (.func k) #[] #[]) ∧ W'.cell? ⟨w2.heap.size, 0, none⟩ = some (.int .i64 (W : Int)) ∧ W'.cell? ⟨w2.heap.size, 1, none⟩ = some (.int .u64 (r : Int)) ∧ W'.cell? ⟨bk, off + 1, none⟩ = some (.int .u64 (y : Int)) ∧ Hid (Below wl.heap.size wl W')) (first | exact HH.out _ HD | exact HH.out _ (by assumption))
    (first | (go_at_call 29; with_reducible refine (KU1.out _ (by assumption)).mono ?_; rintro e w' ⟨rfl, hb⟩) | (refine (KV.out _ (by assumption)).mono ?_; rintro e w' ⟨⟨q, rfl, hq⟩, hb⟩))
  all_goals
    go_wp2
    go_ret
    exact ⟨⟨_, rfl, Hid.out (by assumption)⟩, HB2.out.trans (Below.mono (Hid.out (p := Below wl.heap.size wl _) (by assumption)) HB2.out.size)⟩
set_option maxRecDepth 20000 in
set_option maxHeartbeats 8000000 in
theorem raw_three (o : Nat) (h2 : 21 ≤ o) (h4 : o < 22) (x : Nat) (hx : x < 18446744073709551616) (y : Nat) (hy : y < 18446744073709551616) (z : Nat) (hz : z < 18446744073709551616) (ad : Option Addr) (c : Nat) (w : World) (hN : NumsR w ad [x, y, z]) :
    Calls Tryd.prog 30 #[.int .u8 (o : Int), .int .i64 (W : Int), .slice ad 3 c] w fun e w' => Raw W o (x % 2 ^ W) (y % 2 ^ W) (z % 2 ^ W) e ∧ Below w.heap.size w w' := by
  obtain ⟨bk, off, rfl, hlt, hc⟩ := hN.look (by simp)
  have HX0 : Hid (∀ w', Below w.heap.size w w' → w'.cell? ⟨bk, off, none⟩ = some (.int .u64 (x : Int))) := fun w' hb => (hb.cell (p := ⟨bk, off, none⟩) hlt).trans (hc 0 (by simp))
  have HX1 : Hid (∀ w', Below w.heap.size w w' → w'.cell? ⟨bk, off + 1, none⟩ = some (.int .u64 (y : Int))) := fun w' hb => (hb.cell (p := ⟨bk, off + 1, none⟩) hlt).trans (hc 1 (by simp))
  have HX2 : Hid (∀ w', Below w.heap.size w w' → w'.cell? ⟨bk, off + 2, none⟩ = some (.int .u64 (z : Int))) := fun w' hb => (hb.cell (p := ⟨bk, off + 2, none⟩) hlt).trans (hc 2 (by simp))
  have KC : Hid (∀ w', Calls Tryd.prog 37 #[.int .u8 (o : Int)] w' fun e w2 => e = .returned (.agg #[.nilFunc, .nilFunc, mOf o]) ∧ Below w'.heap.size w' w2) := fun w' => by
    have := calc_is o (by omega) (by omega) w'
    rcases calc_cases o (by omega) (by omega) with ⟨h5, he⟩ | ⟨h5, h6, he⟩ | ⟨h5, he⟩
    · omega
    · omega
    · rwa [he] at this
  have KT0 : Hid (∀ w', Calls Tryd.prog 29 #[.int .i64 (W : Int), .int .u64 (x : Int)] w' fun e w2 => e = .returned (W2 W (x % 2 ^ W)) ∧ Below w'.heap.size w' w2) := fun w' => trimmed_is h1 h x hx w'
  have KT1 : Hid (∀ w', Calls Tryd.prog 29 #[.int .i64 (W : Int), .int .u64 (y : Int)] w' fun e w2 => e = .returned (W2 W (y % 2 ^ W)) ∧ Below w'.heap.size w' w2) := fun w' => trimmed_is h1 h y hy w'
  have KT2 : Hid (∀ w', Calls Tryd.prog 29 #[.int .i64 (W : Int), .int .u64 (z : Int)] w' fun e w2 => e = .returned (W2 W (z % 2 ^ W)) ∧ Below w'.heap.size w' w2) := fun w' => trimmed_is h1 h z hz w'
  have KM : Hid (∀ w', Calls Tryd.prog (mTab.getD (o - 2) 0) #[W2 W (x % 2 ^ W), W2 W (y % 2 ^ W), W2 W (z % 2 ^ W)] w' fun e w2 => Raw W o (x % 2 ^ W) (y % 2 ^ W) (z % 2 ^ W) e ∧ Below w'.heap.size w' w2) := fun w' => m_all3 h1 h o h2 h4 (Nat.mod_lt _ (two_pos W)) (Nat.mod_lt _ (two_pos W)) (Nat.mod_lt _ (two_pos W)) w'
  have CF : ∀ args w', (callFunc (mTab.getD (o - 2) 0) args).run Tryd.prog w' = .ok (.enter (mTab.getD (o - 2) 0) args) w' := fun args w' => m_enter (o - 2) (by omega) args w'
  unfold mOf W2 at *
  obtain ⟨k, hk⟩ : ∃ k, mTab.getD (o - 2) 0 = k := ⟨_, rfl⟩
  obtain ⟨r, hrr⟩ : ∃ r, x % 2 ^ W = r := ⟨_, rfl⟩
  obtain ⟨s, hss⟩ : ∃ r, y % 2 ^ W = r := ⟨_, rfl⟩
  obtain ⟨t, htt⟩ : ∃ r, z % 2 ^ W = r := ⟨_, rfl⟩
  rw [hk] at KC KM CF
  rw [hrr] at KT0 KM ⊢
  rw [hss] at KT1 KM ⊢
  rw [htt] at KT2 KM ⊢
  clear hk hrr hss htt h1 h h2 h4 hx hy hz hc hN
  go_enter Tryd.func30, Tryd.ntmps30
  go_wp2_with fail
  refine (KC.out _).mono ?_
  rintro e w1 ⟨rfl, hB1⟩
  have HB1 := Lib.hid (hB1.alloc hB1.size (Obj.cells #[Value.nilFunc, Value.nilFunc, Value.func (Fn.func k) #[] #[]] 68))
  have c1 := HX0.out _ HB1.out
  have F1 := Lib.hid (heap_alloc_new w1 (Obj.cells #[Value.nilFunc, Value.nilFunc, Value.func (Fn.func k) #[] #[]] 68))
  clear hB1
  go_wp2_with fail
  refine (KT0.out _).mono ?_
  rintro e w2 ⟨rfl, hB2⟩
  have HB2 := Lib.hid ((HB1.out.trans (hB2.mono HB1.out.size)).alloc (Nat.le_trans HB1.out.size hB2.size) (Obj.cells #[Value.int .i64 (W : Int), Value.int .u64 (r : Int)] 55))
  have F2 : Hid ((w2.alloc (Obj.cells #[Value.int .i64 (W : Int), Value.int .u64 (r : Int)] 55)).heap[w1.heap.size]? = some (Obj.cells #[Value.nilFunc, Value.nilFunc, Value.func (Fn.func k) #[] #[]] 68)) := by
    unfold Hid
    rw [Below.heap_alloc _ _ _ (by have := hB2.size; simp at this; omega)]
    exact (hB2.block _ (by simp)).trans F1.out
  have X2 : Hid (Box (w2.alloc (Obj.cells #[Value.int .i64 (W : Int), Value.int .u64 (r : Int)] 55)) w2.heap.size W r) := Box.new w2 W r
  have hlt2 : w1.heap.size < (w2.alloc (Obj.cells #[Value.int .i64 (W : Int), Value.int .u64 (r : Int)] 55)).heap.size := (Array.getElem?_eq_some_iff.1 F2.out).1
  clear hB2 F1 HB1 c1
  obtain ⟨wl, hwl⟩ : ∃ wl, w2.alloc (Obj.cells #[Value.int .i64 (W : Int), Value.int .u64 (r : Int)] 55) = wl := ⟨_, rfl⟩
  rw [hwl] at HB2 F2 X2 hlt2
  have HH : Hid (∀ W', Hid (Below wl.heap.size wl W') → W'.cell? ⟨w1.heap.size, 2, none⟩ = some (.func (.func k) #[] #[]) ∧ W'.cell? ⟨w2.heap.size, 0, none⟩ = some (.int .i64 (W : Int)) ∧ W'.cell? ⟨w2.heap.size, 1, none⟩ = some (.int .u64 (r : Int)) ∧ W'.cell? ⟨bk, off + 1, none⟩ = some (.int .u64 (y : Int)) ∧ W'.cell? ⟨bk, off + 2, none⟩ = some (.int .u64 (z : Int)) ∧ Hid (Below wl.heap.size wl W')) := fun W' hW => ⟨by have := (hW.out.block _ hlt2).trans F2.out; unfold World.cell?; rw [this]; rfl, (X2.out.below hW.out X2.out.lt).c0, (X2.out.below hW.out X2.out.lt).c1, HX1.out _ (HB2.out.trans (hW.out.mono HB2.out.size)), HX2.out _ (HB2.out.trans (hW.out.mono HB2.out.size)), hW⟩
  have HD : Hid (Below wl.heap.size wl wl.drew) := (Below.refl _ _).drew
  have KU1 : Hid (∀ W', Hid (Below wl.heap.size wl W') → Calls Tryd.prog 29 #[.int .i64 (W : Int), .int .u64 (y : Int)] W' fun e w2 => e = .returned (.agg #[.int .i64 (W : Int), .int .u64 (s : Int)]) ∧ Hid (Below wl.heap.size wl w2)) := fun W' hW => (KT1.out W').mono fun e w' ⟨he, hb⟩ => ⟨he, hW.out.trans (hb.mono hW.out.size)⟩
  have KU2 : Hid (∀ W', Hid (Below wl.heap.size wl W') → Calls Tryd.prog 29 #[.int .i64 (W : Int), .int .u64 (z : Int)] W' fun e w2 => e = .returned (.agg #[.int .i64 (W : Int), .int .u64 (t : Int)]) ∧ Hid (Below wl.heap.size wl w2)) := fun W' hW => (KT2.out W').mono fun e w' ⟨he, hb⟩ => ⟨he, hW.out.trans (hb.mono hW.out.size)⟩
  have KV : Hid (∀ W', Hid (Below wl.heap.size wl W') → Calls Tryd.prog k #[.agg #[.int .i64 (W : Int), .int .u64 (r : Int)], .agg #[.int .i64 (W : Int), .int .u64 (s : Int)], .agg #[.int .i64 (W : Int), .int .u64 (t : Int)]] W' fun e w2 => (∃ q : Nat, e = .returned (.int .u64 (q : Int)) ∧ Hid (q < 18446744073709551616 ∧ q % 2 ^ W = res W o r s t)) ∧ Hid (Below wl.heap.size wl w2)) := fun W' hW => (KM.out W').mono fun e w' ⟨he, hb⟩ => ⟨he, hW.out.trans (hb.mono hW.out.size)⟩
  clear hlt2 F2 X2
  go_wp2
  go_region_held3 (fun W' => W'.cell? ⟨w1.heap.size, 2, none⟩ = some (.func (.func k) #[] #[]) ∧ W'.cell? ⟨w2.heap.size, 0, none⟩ = some (.int .i64 (W : Int)) ∧ W'.cell? ⟨w2.heap.size, 1, none⟩ = some (.int .u64 (r : Int)) ∧ W'.cell? ⟨bk, off + 1, none⟩ = some (.int .u64 (y : Int)) ∧ W'.cell? ⟨bk, off + 2, none⟩ = some (.int .u64 (z : Int)) ∧ Hid (Below wl.heap.size wl W')) (first | exact HH.out _ HD | exact HH.out _ (by assumption))
    (first | (go_at_call 29; with_reducible refine (KU1.out _ (by assumption)).mono ?_; rintro e w' ⟨rfl, hb⟩) | (go_at_call 29; with_reducible refine (KU2.out _ (by assumption)).mono ?_; rintro e w' ⟨rfl, hb⟩) | (refine (KV.out _ (by assumption)).mono ?_; rintro e w' ⟨⟨q, rfl, hq⟩, hb⟩))
  all_goals
    go_wp2
    go_ret
    exact ⟨⟨_, rfl, Hid.out (by assumption)⟩, HB2.out.trans (Below.mono (Hid.out (p := Below wl.heap.size wl _) (by assumption)) HB2.out.size)⟩
end
end Go.Proofs.YtldcekejbnhloaaDoor.Words
