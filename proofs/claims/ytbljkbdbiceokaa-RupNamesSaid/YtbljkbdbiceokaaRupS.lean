/-
  attempt: what is panicked is recovered.
  Check.
  Implied's inside.
  rup.Check: the whole call.
  What the laws of layer 5 share: valid formulas, answers, the closed example.
  Layer 5: clauses of a formula's variables; what a model says of what is implied.
-/
import Derived.Test.YtbljkbdbiceokaaRupP
import Derived.Recover
import Derived.Test.YtbljkbdbiceokaaPropN
import Derived.Deep.RegionHeld3
import Derived.Test.YtbljkbdbiceokaaPropV
import Derived.Test.YtbljkbdbiceokaaPropU
namespace Go.Proofs.Ytbljkbdbiceokaa
open Go.RowKit Go.Lib
open Go.RowKit (Below)

/-! RupS -/
theorem Try.infoErrno : (Try.prog.info? 30).map (fun i => i.zero) = some (some (.int .i64 0)) := by kernel_rfl
theorem assert_yes (r : Int) (w : World) : (Instr.typeAssert (.iface 30 (.int .i64 r)) 20 30 true).run Try.prog w = .ok (.tuple #[.int .i64 r, .bool true]) w := by
  simp [Instr.typeAssert, run_underlying Try.underlying30, go_sem, Result.andThen]
theorem assert_no (w : World) : (Instr.typeAssert .nilIface 20 30 true).run Try.prog w = .ok (.tuple #[.int .i64 0, .bool false]) w := by
  have h := Try.infoErrno
  cases hi : Try.prog.info? 30 with
  | none => rw [hi] at h; cases h
  | some i =>
    rw [hi] at h
    have hz : i.zero = some (.int .i64 0) := by simpa using h
    simp [Instr.typeAssert, run_underlying Try.underlying30, go_sem, Result.andThen, zeroValue, typeInfo, hi, hz]

set_option maxRecDepth 100000 in
set_option maxHeartbeats 4000000 in
theorem catch_bad (p : Addr) (r : Int) (x : Value) (older : List PanicEntry) (w : World) (hc : w.cell? p = some x) (hz : w.frozen? p = false) :
    CallsD Try.prog 50 #[.pointer (some p)] (.panicking ({ v := .iface 30 (.int .i64 r), recovered := false } :: older)) w fun e u' w' =>
      e = .returned (.tuple #[]) ∧ u' = .panicking ({ v := .iface 30 (.int .i64 r), recovered := true } :: older) ∧ w' = w.setCell p (.int .i64 r) := by
  have hta := assert_yes r
  refine callsD_of_wpS Try.func50 rfl fun c₀ cs hu => ?_
  simp only [Try.ntmps50, List.size_toArray, List.length_cons, List.length_nil, Nat.reduceAdd, Nat.reduceSub, Array.replicate_succ, Array.replicate_zero, List.push_toArray, List.append_toArray, List.nil_append, List.cons_append]
  apply wpS_seq
  apply wpS_region
  simp [wpOpsS, go_sem, recoverD, hu, Exit.thenS, hta]
  apply wpS_seq
  apply wpS_region
  simp [wpOpsS, go_sem, Exit.thenS]
  refine wpS_cond (t := true) (by simp [Act.eval]) ?_
  simp only [if_true]
  apply wpS_region
  simp [wpOpsS, go_sem, hc, hz, bodyPostS, results, Try.results50]
set_option maxRecDepth 100000 in
set_option maxHeartbeats 4000000 in
theorem catch_idle (p : Addr) (w : World) :
    CallsD Try.prog 50 #[.pointer (some p)] .returning w fun e u' w' => e = .returned (.tuple #[]) ∧ u' = .returning ∧ w' = w := by
  have hta := assert_no
  refine callsD_of_wpS Try.func50 rfl fun c₀ cs hu => ?_
  simp only [Try.ntmps50, List.size_toArray, List.length_cons, List.length_nil, Nat.reduceAdd, Nat.reduceSub, Array.replicate_succ, Array.replicate_zero, List.push_toArray, List.append_toArray, List.nil_append, List.cons_append]
  apply wpS_seq
  apply wpS_region
  simp [wpOpsS, go_sem, recoverD, hu, Exit.thenS, hta]
  apply wpS_seq
  apply wpS_region
  simp [wpOpsS, go_sem, Exit.thenS]
  refine wpS_cond (t := false) (by simp [Act.eval]) ?_
  simp only [Bool.false_eq_true, if_false]
  refine wpS_of_wp (wp_skip ?_)
  cases c₀
  simp_all [bodyPostS, results, Try.results50]

/-- What is called within attempt: it returns, or panics with an error. -/
def RunIn (w : World) (Good : World → Prop) (Bad : Int → World → Prop) (e : Ending) (W' : World) : Prop :=
  W'.heap[w.heap.size]? = some (.cells #[.int .i64 0] 30 (0, 0)) ∧ ((e = .returned (.tuple #[]) ∧ Good W') ∨ ∃ r, e = .panicked (panicE r) ∧ Bad r W')
set_option maxRecDepth 100000 in
set_option maxHeartbeats 4000000 in
theorem attempt_any {g : Nat} {cap : Array Value} {w : World} {Good : World → Prop} {Bad : Int → World → Prop} (eg : ∀ args w, (callFunc g args).run Try.prog w = .ok (.enter g args) w)
    (hrun : Calls Try.prog g cap (w.alloc (.cells #[.int .i64 0] 30)) (RunIn w Good Bad)) :
    Calls Try.prog 29 #[.func (.func g) #[] cap] w fun e w' => ∃ r W', e = .returned (.int .i64 r) ∧ w' = W'.setCell ⟨w.heap.size, 0, none⟩ (.int .i64 r) ∧ ((r = 0 ∧ Good W') ∨ Bad r W') := by
  have hmf : ∀ (fn : Fn) (first cap : Array Value) (w : World), (Instr.makeFunc fn first cap).run Try.prog w = .ok (.func fn first cap) w := fun _ _ _ _ => rfl
  have HR := Lib.hid hrun
  clear hrun
  go_enter_defers Try.func29, Try.ntmps29
  go_wp2
  refine HR.out.mono ?_
  rintro e W' ⟨hv, (⟨rfl, hg⟩ | ⟨r, rfl, hb⟩)⟩
  · have c0 : W'.cell? ⟨w.heap.size, 0, none⟩ = some (.int .i64 0) := by simp [World.cell?, hv]
    have f0 : W'.frozen? ⟨w.heap.size, 0, none⟩ = false := by simp [World.frozen?, hv]
    have c1 : (W'.setCell ⟨w.heap.size, 0, none⟩ (.int .i64 0)).cell? ⟨w.heap.size, 0, none⟩ = some (.int .i64 0) := World.cell?_setCell_same' _ _ _ (by rw [c0]; rfl)
    have HG := Lib.hid hg
    clear hv hg HR
    go_wp2
    refine leaves_cons (f := 50) (args := #[.pointer (some ⟨w.heap.size, 0, none⟩)]) (by simp) (by simp [go_sem]) ?_
    refine (catch_idle _ _).mono ?_
    rintro e u' w'' ⟨rfl, rfl, rfl⟩
    simp [Leaves, settle, results, Try.results29, go_sem, c1]
    exact ⟨W', rfl, .inl HG.out⟩
  · have c0 : W'.cell? ⟨w.heap.size, 0, none⟩ = some (.int .i64 0) := by simp [World.cell?, hv]
    have f0 : W'.frozen? ⟨w.heap.size, 0, none⟩ = false := by simp [World.frozen?, hv]
    have c1 : (W'.setCell ⟨w.heap.size, 0, none⟩ (.int .i64 r)).cell? ⟨w.heap.size, 0, none⟩ = some (.int .i64 r) := World.cell?_setCell_same' _ _ _ (by rw [c0]; rfl)
    have HB := Lib.hid hb
    clear hv hb HR
    refine leaves_cons (f := 50) (args := #[.pointer (some ⟨w.heap.size, 0, none⟩)]) (by simp) (by simp [go_sem]) ?_
    refine (catch_bad ⟨w.heap.size, 0, none⟩ r _ [] _ c0 f0).mono ?_
    rintro e u' w'' ⟨rfl, rfl, rfl⟩
    simp [Leaves, settle, results, Try.results29, go_sem, c1]
    exact ⟨W', rfl, .inr HB.out⟩

/-! RupT -/
/-- What is known of a formula and clauses that are valid. -/
theorem dv_zero {n : Nat} {F P : List (List Int)} (hF : ∀ z ∈ F, ∀ x ∈ z, Rng x) (hP : ∀ z ∈ P, ∀ x ∈ z, Rng x) (h : dv n F P = 0) :
    F.length ≤ 1048576 ∧ P.length ≤ 1048576 ∧ (∀ z ∈ F, z.length ≤ 4096) ∧ (∀ z ∈ P, z.length ≤ 4096) ∧ (∀ z ∈ F, ∀ x ∈ z, x ≠ 0 ∧ x.natAbs ≤ n) ∧ ∀ z ∈ P, ∀ x ∈ z, x ≠ 0 ∧ x.natAbs ≤ n := by
  have hFz : checkF n F = 0 := by
    unfold dv at h
    split at h
    · rename_i h1; exact absurd h h1
    · rename_i h1; exact Decidable.not_not.1 h1
  have hPz : checkF n P = 0 := by rw [dv_ok hFz] at h; exact h
  obtain ⟨f1, f2⟩ := checkF_zero hFz
  obtain ⟨p1, p2⟩ := checkF_zero hPz
  have g : ∀ {L : List (List Int)}, (∀ z ∈ L, ∀ x ∈ z, Rng x) → (∀ z ∈ L, checkI n z = 0) → ∀ z ∈ L, ∀ x ∈ z, x ≠ 0 ∧ x.natAbs ≤ n := fun hr hc z hz x hx => by
    have := (checkI_zero (hc z hz)).2
    rw [List.any_eq_false] at this
    exact badB_ok (hr z hz x hx) (by simpa using this x hx)
  exact ⟨f1, p1, fun z hz => (checkI_zero (f2 z hz)).1, fun z hz => (checkI_zero (p2 z hz)).1, g hF f2, g hP p2⟩

/-- How the function within Check is left. -/
def InPost (W0 : World) (b2 : Nat) (n : Int) (F P : List (List Int)) (e : Ending) (W' : World) : Prop :=
  (dv n F P = 0 ∧ ∃ v W1, e = .returned (.tuple #[]) ∧ ChkV F P v ∧ Below W0.heap.size W0 W1 ∧ W' = W1.setCell ⟨b2, 0, none⟩ (.int .i64 v)) ∨ (dv n F P ≠ 0 ∧ e = .panicked (panicE (dv n F P)) ∧ Below W0.heap.size W0 W')
set_option maxRecDepth 100000 in
set_option maxHeartbeats 4000000 in
theorem checkIn_any {n : Nat} {F P : List (List Int)} {a : Option Addr} {c : Nat} {pa : Option Addr} {pc b0 b1 b2 : Nat} {W0 : World} (hn : n ≤ 1000000) (hFl : F.length ≤ maxLen) (hFA : AllLen F) (hF : RowsR .i64 W0 a F) (hFr : ∀ z ∈ F, ∀ x ∈ z, Rng x)
    (hPl : P.length ≤ 1048576) (hPc : P.length ≤ pc) (hPA : AllLen P) (hP : RowsR .i64 W0 pa P) (hPr : ∀ z ∈ P, ∀ x ∈ z, Rng x)
    (h00 : W0.cell? ⟨b0, 0, none⟩ = some (.int .i64 n)) (h01 : W0.cell? ⟨b0, 1, none⟩ = some (.slice a F.length c)) (h1 : W0.cell? ⟨b1, 0, none⟩ = some (.slice pa P.length pc)) (h2 : W0.heap[b2]? = some (.cells #[.int .i64 0] 3 (0, 0))) (g0 : b0 < W0.heap.size) (g1 : b1 < W0.heap.size) :
    Calls Try.prog 38 #[.pointer (some ⟨b0, 0, none⟩), .pointer (some ⟨b1, 0, none⟩), .pointer (some ⟨b2, 0, none⟩)] W0 (InPost W0 b2 n F P) := by
  have HDV := Lib.hid (demandValid_any n a c pa pc W0 hFl hFA hF hPl hPc hPA hP)
  have HZ := Lib.hid (dv_zero (n := n) hFr hPr)
  have HF := Lib.hid hF
  have HP := Lib.hid hP
  have H2 := Lib.hid h2
  have HN := Lib.hid hn
  have G2 : Hid (b2 < W0.heap.size) := (Array.getElem?_eq_some_iff.1 h2).1
  clear hFA hF hFr hPA hP hPr h2 hn hFl hPl hPc
  go_enter Try.func38, Try.ntmps38
  go_wp2_with fail
  refine HDV.out.mono ?_
  rintro e w1 ⟨hB1, (⟨hd, rfl⟩ | ⟨hd, rfl⟩)⟩
  · obtain ⟨z1, z2, z3, z4, z5, z6⟩ := HZ.out hd
    have c00 : w1.cell? ⟨b0, 0, none⟩ = some (.int .i64 n) := (hB1.cell (p := ⟨b0, 0, none⟩) g0).trans h00
    have c01 : w1.cell? ⟨b0, 1, none⟩ = some (.slice a F.length c) := (hB1.cell (p := ⟨b0, 1, none⟩) g0).trans h01
    have c1 : w1.cell? ⟨b1, 0, none⟩ = some (.slice pa P.length pc) := (hB1.cell (p := ⟨b1, 0, none⟩) g1).trans h1
    have HFR := Lib.hid (firstRefused_any a c pa pc w1 HN.out z1 (HF.out.below hB1) z5 z2 (HP.out.below hB1) z6 (fun z hz => by have := z4 z hz; omega))
    have HB1 := Lib.hid hB1
    have HD := Lib.hid hd
    clear z1 z2 z3 z4 z5 z6 hB1 hd HDV HZ
    go_wp2_with fail
    refine HFR.out.mono ?_
    rintro e w2 ⟨v, rfl, hv, hB2⟩
    have HB2 := Lib.hid (HB1.out.trans (hB2.mono HB1.out.size))
    have HV := Lib.hid hv
    have c2 : w2.cell? ⟨b2, 0, none⟩ = some (.int .i64 0) := by simp [World.cell?, HB2.out.block b2 G2.out, H2.out]
    have f2 : w2.frozen? ⟨b2, 0, none⟩ = false := by simp [World.frozen?, HB2.out.block b2 G2.out, H2.out]
    clear hv hB2 HFR
    go_wp2
    go_end0
    exact .inl ⟨HD.out, v, w2, rfl, HV.out, HB2.out, rfl⟩
  · have HFIN : Hid (InPost W0 b2 n F P (.panicked (panicE (dv n F P))) w1) := .inr ⟨hd, rfl, hB1⟩
    exact ⟨rfl, HFIN.out⟩

/-! RupU -/
/-- Units of what is valid. -/
theorem unitsOk {n : Nat} {zss : List (List Int)} {xs : List Int} (a : Option Addr) (c : Nat) (xa : Option Addr) (xc : Nat) (w : World) {L Lx : Nat} (hL : zss.length = L) (hLx : xs.length = Lx) (hn : n ≤ 1000000) (hm : zss.length ≤ maxLen) (hA : AllLen zss) (hR : RowsR .i64 w a zss) (hX : IntsR w xa xs) (hxl : xs.length ≤ maxLen)
    (hz : ∀ z ∈ zss, ∀ x ∈ z, Rng x) (hc : checkF n zss = 0) (hx : ∀ x ∈ xs, x ≠ 0 ∧ x.natAbs ≤ n) :
    Calls Try.prog 28 #[.agg #[.int .i64 n, .slice a L c], .slice xa Lx xc] w fun e w' => ∃ v b, e = .returned (.tuple #[v, .bool b, .int .i64 0]) ∧ Hid (b = true ↔ Fails zss xs) ∧ Hid (Below w.heap.size w w') := by
  subst hL hLx
  have hr : ∀ x ∈ xs, Rng x := fun x h => by have := hx x h; constructor <;> omega
  have hp : checkP n zss xs = 0 := by
    unfold checkP
    rw [hc, if_neg (by simp)]
    have : xs.any (badB n) = false := by
      rw [List.any_eq_false]
      intro x h
      rw [badB_of (hr x h) (hx x h).1 (hx x h).2]; simp
    rw [this]; rfl
  refine (units_any a c xa xc w hn hm hA hR hX hxl hz hr).mono ?_
  rintro e w' ⟨hB, (⟨h, _⟩ | ⟨_, hf, rfl⟩ | ⟨_, v, u, hf, rfl, _⟩)⟩
  · exact absurd hp h
  · exact ⟨_, true, rfl, ⟨fun _ => hf, fun _ => rfl⟩, hB⟩
  · exact ⟨v, false, rfl, ⟨(fun h => by cases h), fun h => absurd h hf.1⟩, hB⟩

/-- One row, in a block of its own. -/
theorem rowsOne {w : World} {a : Option Addr} {c : Nat} {z : List Int} (h : IntsR w a z) (hc : z.length ≤ c) (hc2 : c ≤ maxLen) (T : TypeId) : RowsR .i64 (w.alloc (.cells #[.slice a z.length c] T)) (some ⟨w.heap.size, 0, none⟩) [z] := by
  refine .inr ⟨w.heap.size, 0, rfl, by simp, fun j hj => ?_⟩
  obtain rfl : j = 0 := by simp at hj; omega
  exact ⟨a, c, World.cell?_alloc_at _ _ _ _ rfl, KI.of (h.alloc _), hc, hc2⟩

/-- How the function within Implied is left. -/
def ImpIn (W0 : World) (b2 : Nat) (n : Int) (F : List (List Int)) (z : List Int) (e : Ending) (W' : World) : Prop :=
  (dv n F [z] = 0 ∧ ∃ v W1, e = .returned (.tuple #[]) ∧ (v = true ↔ Fails F (negs z)) ∧ Below W0.heap.size W0 W1 ∧ W' = W1.setCell ⟨b2, 0, none⟩ (.bool v)) ∨ (dv n F [z] ≠ 0 ∧ e = .panicked (panicE (dv n F [z])) ∧ Below W0.heap.size W0 W')
set_option maxRecDepth 100000 in
set_option maxHeartbeats 4000000 in
theorem impliedIn_any {n : Nat} {F : List (List Int)} {z : List Int} {a : Option Addr} {c : Nat} {za : Option Addr} {zc b0 b1 b2 : Nat} {W0 : World} (hn : n ≤ 1000000) (hFl : F.length ≤ maxLen) (hFA : AllLen F) (hF : RowsR .i64 W0 a F) (hFr : ∀ z ∈ F, ∀ x ∈ z, Rng x)
    (hzc : z.length ≤ zc) (hzm : zc ≤ maxLen) (hz : IntsR W0 za z) (hzr : ∀ x ∈ z, Rng x)
    (h00 : W0.cell? ⟨b0, 0, none⟩ = some (.int .i64 n)) (h01 : W0.cell? ⟨b0, 1, none⟩ = some (.slice a F.length c)) (h1 : W0.cell? ⟨b1, 0, none⟩ = some (.slice za z.length zc)) (h2 : W0.heap[b2]? = some (.cells #[.bool false] 4 (0, 0))) (g0 : b0 < W0.heap.size) (g1 : b1 < W0.heap.size) :
    Calls Try.prog 30 #[.pointer (some ⟨b0, 0, none⟩), .pointer (some ⟨b1, 0, none⟩), .pointer (some ⟨b2, 0, none⟩)] W0 (ImpIn W0 b2 n F z) := by
  obtain ⟨Wa, hWa⟩ : ∃ Wa, W0.alloc (.cells #[.slice za z.length zc] 23) = Wa := ⟨_, rfl⟩
  have hBA : Below W0.heap.size W0 Wa := by rw [← hWa]; exact boxed W0 _
  have hRo : RowsR .i64 Wa (some ⟨W0.heap.size, 0, none⟩) [z] := by rw [← hWa]; exact rowsOne hz hzc hzm _
  have hDV := demandValid_any n (P := [z]) a c (some ⟨W0.heap.size, 0, none⟩) 1 Wa hFl hFA (hF.below hBA) (by simp) (by simp) (fun y hy => by rw [List.mem_singleton] at hy; subst hy; omega) hRo
  have HDV := Lib.hid hDV
  have HZ := Lib.hid (dv_zero (n := n) (P := [z]) hFr (fun y hy => by rw [List.mem_singleton] at hy; subst hy; exact hzr))
  have HF := Lib.hid (hF.below hBA)
  have HX := Lib.hid (hz.below hBA)
  have HBA := Lib.hid hBA
  have HFR := Lib.hid hFr
  have HFA := Lib.hid hFA
  have HFL := Lib.hid hFl
  have HZR := Lib.hid hzr
  have H2 := Lib.hid h2
  have HN := Lib.hid hn
  have HWA := Lib.hid hWa
  have G2 : Hid (b2 < W0.heap.size) := (Array.getElem?_eq_some_iff.1 h2).1
  clear hFA hF hFr h2 hn hFl hRo hDV hBA hz hzr hWa hzm hzc
  go_enter Try.func30, Try.ntmps30
  go_wp2_with fail
  rw [HWA.out]
  refine HDV.out.mono ?_
  rintro e w1 ⟨hB1, (⟨hd, rfl⟩ | ⟨hd, rfl⟩)⟩
  · obtain ⟨z1, z2, z3, z4, z5, z6⟩ := HZ.out hd
    have hB01 : Below W0.heap.size W0 w1 := HBA.out.trans (hB1.mono HBA.out.size)
    have c00 : w1.cell? ⟨b0, 0, none⟩ = some (.int .i64 n) := (hB01.cell (p := ⟨b0, 0, none⟩) g0).trans h00
    have c01 : w1.cell? ⟨b0, 1, none⟩ = some (.slice a F.length c) := (hB01.cell (p := ⟨b0, 1, none⟩) g0).trans h01
    have c1 : w1.cell? ⟨b1, 0, none⟩ = some (.slice za z.length zc) := (hB01.cell (p := ⟨b1, 0, none⟩) g1).trans h1
    have G01 : Hid (b0 < w1.heap.size ∧ b1 < w1.heap.size) := ⟨Nat.lt_of_lt_of_le g0 hB01.size, Nat.lt_of_lt_of_le g1 hB01.size⟩
    have hFz : checkF n F = 0 := by
      unfold dv at hd
      split at hd
      · rename_i h1; exact absurd hd h1
      · rename_i h1; exact Decidable.not_not.1 h1
    have hzo : ∀ x ∈ z, x ≠ 0 ∧ x.natAbs ≤ n := z6 z (by simp)
    have hzl : z.length ≤ 4096 := z4 z (by simp)
    have HH : Hid (∀ W, Hid (Below w1.heap.size w1 W) → W.cell? ⟨b0, 0, none⟩ = some (.int .i64 n) ∧ W.cell? ⟨b0, 1, none⟩ = some (.slice a F.length c) ∧ W.cell? ⟨b1, 0, none⟩ = some (.slice za z.length zc) ∧ Hid (Below w1.heap.size w1 W)) := fun W hW =>
      ⟨(hW.out.cell (p := ⟨b0, 0, none⟩) G01.out.1).trans c00, (hW.out.cell (p := ⟨b0, 1, none⟩) G01.out.1).trans c01, (hW.out.cell (p := ⟨b1, 0, none⟩) G01.out.2).trans c1, hW⟩
    have KN : Hid (∀ W, Hid (Below w1.heap.size w1 W) → Calls Try.prog 32 #[.slice za z.length zc] W fun e W' => ∃ b, e = .returned (.slice (some ⟨b, 0, none⟩) z.length z.length) ∧ Hid (IntsR W' (some ⟨b, 0, none⟩) (negs z)) ∧ Hid (Below w1.heap.size w1 W')) := fun W hW => by
      refine (negatives_any za zc z W (by omega) (fun x hx => by have := hzo x hx; have := HN.out; omega) ((HX.out.below hB1).below hW.out)).mono ?_
      rintro e W' ⟨b, rfl, _, _, hI, hB⟩
      exact ⟨b, rfl, hI, hW.out.trans (hB.mono hW.out.size)⟩
    have KU : Hid (∀ W b, Hid (Below w1.heap.size w1 W) → Hid (IntsR W (some ⟨b, 0, none⟩) (negs z)) → Calls Try.prog 28 #[.agg #[.int .i64 n, .slice a F.length c], .slice (some ⟨b, 0, none⟩) z.length z.length] W fun e W' => ∃ v bb, e = .returned (.tuple #[v, .bool bb, .int .i64 0]) ∧ Hid (bb = true ↔ Fails F (negs z)) ∧ Hid (Below w1.heap.size w1 W')) := fun W b hW hI => by
      refine (unitsOk (xs := negs z) a c (some ⟨b, 0, none⟩) z.length W rfl (negs_len z) HN.out HFL.out HFA.out ((HF.out.below hB1).below hW.out) hI.out (by rw [negs_len]; have : maxLen = 9223372036854775807 := rfl; omega) HFR.out hFz (fun x hx => by have := hzo _ (mem_negs.1 hx); omega)).mono ?_
      rintro e W' ⟨v, bb, rfl, hb, hB⟩
      exact ⟨v, bb, rfl, hb, hW.out.trans (hB.out.mono hW.out.size)⟩
    have HB1 := Lib.hid hB01
    have HD := Lib.hid hd
    have HDR : Hid (Below w1.heap.size w1 w1.drew) := (Below.refl _ _).drew
    clear z1 z2 z3 z4 z5 z6 hB1 hd HDV HZ hFz hzo hzl hB01
    go_wp2
    go_cut [4, 5] from 10 to 17 (fun s4 s5 wc => ∃ bb, s4 = .bool bb ∧ s5 = .int .i64 0 ∧ Hid (bb = true ↔ Fails F (negs z)) ∧ Hid (Below w1.heap.size w1 wc))
    case first =>
      go_region_held3 (fun W => W.cell? ⟨b0, 0, none⟩ = some (.int .i64 n) ∧ W.cell? ⟨b0, 1, none⟩ = some (.slice a F.length c) ∧ W.cell? ⟨b1, 0, none⟩ = some (.slice za z.length zc) ∧ Hid (Below w1.heap.size w1 W)) (first | exact HH.out _ HDR | exact HH.out _ (by assumption))
        (first | ((with_reducible refine (KN.out _ ?_).mono ?_); (· assumption); rintro e w' ⟨b, rfl, hI, hb⟩) | ((with_reducible refine (KU.out _ _ ?_ ?_).mono ?_); (· assumption); (· assumption); rintro e w' ⟨v, bb, rfl, hbb, hb⟩))
      all_goals (go_wp2_with fail; go_meet; exact ⟨bb, rfl, rfl, hbb, hb⟩)
    case rest =>
      obtain ⟨w3, hw3⟩ : ∃ w3 : World, w3 = wc := ⟨wc, rfl⟩
      subst hw3
      obtain ⟨bb, rfl, rfl, HBB, HB3⟩ := hcut
      have HB4 : Hid (Below W0.heap.size W0 w3) := HB1.out.trans (HB3.out.mono HB1.out.size)
      have c2 : w3.cell? ⟨b2, 0, none⟩ = some (.bool false) := by simp [World.cell?, HB4.out.block b2 G2.out, H2.out]
      have f2 : w3.frozen? ⟨b2, 0, none⟩ = false := by simp [World.frozen?, HB4.out.block b2 G2.out, H2.out]
      go_wp2_with fail
      refine (demand_ok _).mono ?_
      rintro e w4 ⟨rfl, rfl⟩
      go_wp2
      go_end0
      exact .inl ⟨HD.out, bb, w3, rfl, HBB.out, HB4.out, rfl⟩
  · have HFIN : Hid (ImpIn W0 b2 n F z (.panicked (panicE (dv n F [z]))) w1) := .inr ⟨hd, rfl, HBA.out.trans (hB1.mono HBA.out.size)⟩
    exact ⟨rfl, HFIN.out⟩

/-! The whole. -/
/-- The variables that Check and Implied lay. -/
theorem three_boxes (w : World) (x y v0 e0 z : Value) (T U V : TypeId) (E : TypeId) (o : Value) :
    let W := (((w.alloc (.cells #[x, y] T)).alloc (.cells #[z] U)).alloc (.cells #[v0] V)).alloc (.cells #[e0] E)
    W.cell? ⟨w.heap.size, 0, none⟩ = some x ∧ W.cell? ⟨w.heap.size, 1, none⟩ = some y ∧ W.cell? ⟨w.heap.size + 1, 0, none⟩ = some z ∧ W.heap[w.heap.size + 1 + 1]? = some (.cells #[v0] V (0, 0)) ∧ W.heap[w.heap.size + 1 + 1 + 1]? = some (.cells #[e0] E (0, 0)) ∧ W.heap.size = w.heap.size + 1 + 1 + 1 + 1 ∧ Below w.heap.size w W ∧ o = o := by
  intro W
  have s1 : (w.alloc (.cells #[x, y] T)).heap.size = w.heap.size + 1 := by simp
  have s2 : ((w.alloc (.cells #[x, y] T)).alloc (.cells #[z] U)).heap.size = w.heap.size + 1 + 1 := by simp
  have s3 : (((w.alloc (.cells #[x, y] T)).alloc (.cells #[z] U)).alloc (.cells #[v0] V)).heap.size = w.heap.size + 1 + 1 + 1 := by simp
  have h0 : W.heap[w.heap.size]? = some (.cells #[x, y] T (0, 0)) := by
    show (World.alloc _ _).heap[w.heap.size]? = _
    rw [Below.heap_alloc _ _ _ (by omega), Below.heap_alloc _ _ _ (by omega), Below.heap_alloc _ _ _ (by omega)]; exact heap_alloc_new _ _
  have h1 : W.heap[w.heap.size + 1]? = some (.cells #[z] U (0, 0)) := by
    show (World.alloc _ _).heap[w.heap.size + 1]? = _
    rw [Below.heap_alloc _ _ _ (by omega), Below.heap_alloc _ _ _ (by omega)]
    have := heap_alloc_new (w.alloc (.cells #[x, y] T)) (.cells #[z] U)
    rw [s1] at this; exact this
  have h2 : W.heap[w.heap.size + 1 + 1]? = some (.cells #[v0] V (0, 0)) := by
    show (World.alloc _ _).heap[w.heap.size + 1 + 1]? = _
    rw [Below.heap_alloc _ _ _ (by omega)]
    have := heap_alloc_new ((w.alloc (.cells #[x, y] T)).alloc (.cells #[z] U)) (.cells #[v0] V)
    rw [s2] at this; exact this
  have h3 : W.heap[w.heap.size + 1 + 1 + 1]? = some (.cells #[e0] E (0, 0)) := by
    have := heap_alloc_new (((w.alloc (.cells #[x, y] T)).alloc (.cells #[z] U)).alloc (.cells #[v0] V)) (.cells #[e0] E)
    rw [s3] at this; exact this
  refine ⟨by simp [World.cell?, h0], by simp [World.cell?, h0], by simp [World.cell?, h1], h2, h3, by show (World.alloc _ _).heap.size = _; simp, ?_, rfl⟩
  exact belowAlloc (belowAlloc (belowAlloc (belowAlloc (Below.refl _ _) _) _) _) _

/-! RupV -/
theorem setNew (w : World) (v : Value) (T : TypeId) : (w.alloc (.cells #[v] T)).setCell ⟨w.heap.size, 0, none⟩ v = w.alloc (.cells #[v] T) := by
  have hz : (w.alloc (.cells #[v] T)).heap[w.heap.size]? = some (.cells #[v] T (0, 0)) := heap_alloc_new _ _
  generalize w.alloc (.cells #[v] T) = W at hz ⊢
  obtain ⟨hlt, hz⟩ := Array.getElem?_eq_some_iff.1 hz
  obtain ⟨heap, tape, drawn, os, output⟩ := W
  simp only at hz hlt
  simp only [World.setCell]
  congr 1
  apply Array.ext
  · simp
  · intro i h1 h2
    rw [Array.getElem_modify]
    split
    · rename_i e; subst e; rw [hz]; simp
    · rfl

/-- What Check answers. -/
def CheckPost (n : Int) (F P : List (List Int)) (v r : Int) : Prop := (dv n F P = 0 ∧ r = 0 ∧ ChkV F P v) ∨ (dv n F P ≠ 0 ∧ r = dv n F P ∧ v = 0)
set_option maxRecDepth 100000 in
set_option maxHeartbeats 4000000 in
theorem check_run {n : Int} {F P : List (List Int)} {a : Option Addr} {c : Nat} {pa : Option Addr} {pc : Nat} {w : World}
    (hin : ∀ b0 b1 b2 W0, Below w.heap.size w W0 → W0.cell? ⟨b0, 0, none⟩ = some (.int .i64 n) → W0.cell? ⟨b0, 1, none⟩ = some (.slice a F.length c) → W0.cell? ⟨b1, 0, none⟩ = some (.slice pa P.length pc) → W0.heap[b2]? = some (.cells #[.int .i64 0] 3 (0, 0)) → b0 < W0.heap.size → b1 < W0.heap.size →
      Calls Try.prog 38 #[.pointer (some ⟨b0, 0, none⟩), .pointer (some ⟨b1, 0, none⟩), .pointer (some ⟨b2, 0, none⟩)] W0 (InPost W0 b2 n F P)) :
    Calls Try.prog 18 #[.agg #[.int .i64 n, .slice a F.length c], .slice pa P.length pc] w fun e w' => Below w.heap.size w w' ∧ ∃ v r, e = .returned (.tuple #[.int .i64 v, .int .i64 r]) ∧ CheckPost n F P v r := by
  have hmf : ∀ (fn : Fn) (first cap : Array Value) (w : World), (Instr.makeFunc fn first cap).run Try.prog w = .ok (.func fn first cap) w := fun _ _ _ _ => rfl
  have hsn := setNew
  have HIN := Lib.hid hin
  clear hin
  go_enter Try.func18, Try.ntmps18
  go_wp2_with fail
  obtain ⟨t1, t2, t3, t4, t5, t6, t7, -⟩ := three_boxes w (.int .i64 n) (.slice a F.length c) (.int .i64 0) (.int .i64 0) (.slice pa P.length pc) 26 24 3 30 (.int .i64 0)
  generalize hA : ((w.alloc (.cells #[.int .i64 n, .slice a F.length c] 26)).alloc (.cells #[.slice pa P.length pc] 24)).alloc (.cells #[.int .i64 0] 3) = wA at t1 t2 t3 t4 t5 t6 t7 ⊢
  have hAs : wA.heap.size = w.heap.size + 1 + 1 + 1 := by rw [← hA]; simp
  generalize hW : wA.alloc (.cells #[.int .i64 0] 30) = W0 at t1 t2 t3 t4 t5 t6 t7
  have hin0 := HIN.out w.heap.size (w.heap.size + 1) (w.heap.size + 1 + 1) W0 t7 t1 t2 t3 t4 (by omega) (by omega)
  rw [← hAs] at t5
  have hrun := attempt_any (w := wA) (g := 38) (Good := fun W' => dv n F P = 0 ∧ ∃ v W1, ChkV F P v ∧ Below W0.heap.size W0 W1 ∧ W' = W1.setCell ⟨w.heap.size + 1 + 1, 0, none⟩ (.int .i64 v)) (Bad := fun r W' => dv n F P ≠ 0 ∧ r = dv n F P ∧ Below W0.heap.size W0 W') (enters_of Try.func38 (by kernel_rfl) rfl) (by rw [hW]; exact hin0.mono (by
    rintro e W' (⟨hd, v, W1, rfl, hv, hb, rfl⟩ | ⟨hd, rfl, hb⟩)
    · refine ⟨?_, .inl ⟨rfl, hd, v, W1, hv, hb, rfl⟩⟩
      rw [Below.heap_setCell _ _ _ _ (by simp; omega), hb.block _ (by omega)]; exact t5
    · refine ⟨?_, .inr ⟨_, rfl, hd, rfl, hb⟩⟩
      rw [hb.block _ (by omega)]; exact t5))
  refine hrun.mono ?_
  · rintro e w' ⟨r, W', rfl, rfl, (⟨rfl, hd, v, W1, hv, hb, rfl⟩ | ⟨hd, rfl, hb⟩)⟩
    · have g4 : W1.heap[w.heap.size + 1 + 1]? = some (.cells #[.int .i64 0] 3 (0, 0)) := by rw [hb.block _ (by omega)]; exact t4
      have c0 : W1.cell? ⟨w.heap.size + 1 + 1, 0, none⟩ = some (.int .i64 0) := by simp [World.cell?, g4]
      have c1 : (W1.setCell ⟨w.heap.size + 1 + 1, 0, none⟩ (.int .i64 v)).cell? ⟨w.heap.size + 1 + 1, 0, none⟩ = some (.int .i64 v) := World.cell?_setCell_same' _ _ _ (by rw [c0]; rfl)
      have hB : Below w.heap.size w ((W1.setCell ⟨w.heap.size + 1 + 1, 0, none⟩ (.int .i64 v)).setCell ⟨wA.heap.size, 0, none⟩ (.int .i64 0)) := ((t7.trans (hb.mono t7.size)).setCell (p := ⟨w.heap.size + 1 + 1, 0, none⟩) (by show w.heap.size ≤ w.heap.size + 1 + 1; omega) _).setCell (p := ⟨wA.heap.size, 0, none⟩) (by simp; omega) _
      have c2 : ((W1.setCell ⟨w.heap.size + 1 + 1, 0, none⟩ (.int .i64 v)).setCell ⟨wA.heap.size, 0, none⟩ (.int .i64 0)).cell? ⟨w.heap.size + 1 + 1, 0, none⟩ = some (.int .i64 v) := (World.cell?_of_block (Below.heap_setCell _ _ _ _ (by simp; omega))).trans c1
      generalize (W1.setCell ⟨w.heap.size + 1 + 1, 0, none⟩ (.int .i64 v)).setCell ⟨wA.heap.size, 0, none⟩ (.int .i64 0) = w2 at hB c2 ⊢
      have HB := Lib.hid hB
      have HV := Lib.hid hv
      have HD := Lib.hid hd
      clear hB hv hd hb t7 t1 t2 t3 t4 t5 hin0 c1 c0
      go_wp2
      go_ret2
      exact ⟨HB.out, v, 0, rfl, .inl ⟨HD.out, rfl, HV.out⟩⟩
    · have g4 : W'.heap[w.heap.size + 1 + 1]? = some (.cells #[.int .i64 0] 3 (0, 0)) := by rw [hb.block _ (by omega)]; exact t4
      have c0 : W'.cell? ⟨w.heap.size + 1 + 1, 0, none⟩ = some (.int .i64 0) := by simp [World.cell?, g4]
      have hB : Below w.heap.size w (W'.setCell ⟨wA.heap.size, 0, none⟩ (.int .i64 (dv n F P))) := (t7.trans (hb.mono t7.size)).setCell (p := ⟨wA.heap.size, 0, none⟩) (by simp; omega) _
      have c2 : (W'.setCell ⟨wA.heap.size, 0, none⟩ (.int .i64 (dv n F P))).cell? ⟨w.heap.size + 1 + 1, 0, none⟩ = some (.int .i64 0) := (World.cell?_of_block (Below.heap_setCell _ _ _ _ (by simp; omega))).trans c0
      generalize W'.setCell ⟨wA.heap.size, 0, none⟩ (.int .i64 (dv n F P)) = w2 at hB c2 ⊢
      have HB := Lib.hid hB
      have HD := Lib.hid hd
      clear hB hd hb t7 t1 t2 t3 t4 t5 hin0 c0
      go_wp2
      go_ret2
      exact ⟨HB.out, 0, _, rfl, .inr ⟨HD.out, rfl, rfl⟩⟩

set_option maxRecDepth 100000 in
set_option maxHeartbeats 4000000 in
theorem rupCheck_any {n : Nat} {F P : List (List Int)} (a : Option Addr) (c : Nat) (pa : Option Addr) (pc : Nat) (w : World) (hn : n ≤ 1000000) (hFl : F.length ≤ maxLen) (hFA : AllLen F) (hF : RowsR .i64 w a F) (hFr : ∀ z ∈ F, ∀ x ∈ z, Rng x)
    (hPl : P.length ≤ 1048576) (hPc : P.length ≤ pc) (hPA : AllLen P) (hP : RowsR .i64 w pa P) (hPr : ∀ z ∈ P, ∀ x ∈ z, Rng x) :
    Calls Try.prog 18 #[.agg #[.int .i64 n, .slice a F.length c], .slice pa P.length pc] w fun e w' => Below w.heap.size w w' ∧ ∃ v r, e = .returned (.tuple #[.int .i64 v, .int .i64 r]) ∧ CheckPost n F P v r :=
  check_run fun _ _ _ _ hB h00 h01 h1 h2 g0 g1 => checkIn_any hn hFl hFA (hF.below hB) hFr hPl hPc hPA (hP.below hB) hPr h00 h01 h1 h2 g0 g1
/-- What Implied answers. -/
def ImplPost (n : Int) (F : List (List Int)) (P : List Int) (v : Bool) (r : Int) : Prop := (dv n F [P] = 0 ∧ r = 0 ∧ (v = true ↔ Fails F (negs P))) ∨ (dv n F [P] ≠ 0 ∧ r = dv n F [P] ∧ v = false)
set_option maxRecDepth 100000 in
set_option maxHeartbeats 4000000 in
theorem implied_run {n : Int} {F : List (List Int)} {P : List Int} {a : Option Addr} {c : Nat} {pa : Option Addr} {pc : Nat} {w : World}
    (hin : ∀ b0 b1 b2 W0, Below w.heap.size w W0 → W0.cell? ⟨b0, 0, none⟩ = some (.int .i64 n) → W0.cell? ⟨b0, 1, none⟩ = some (.slice a F.length c) → W0.cell? ⟨b1, 0, none⟩ = some (.slice pa P.length pc) → W0.heap[b2]? = some (.cells #[.bool false] 4 (0, 0)) → b0 < W0.heap.size → b1 < W0.heap.size →
      Calls Try.prog 30 #[.pointer (some ⟨b0, 0, none⟩), .pointer (some ⟨b1, 0, none⟩), .pointer (some ⟨b2, 0, none⟩)] W0 (ImpIn W0 b2 n F P)) :
    Calls Try.prog 14 #[.agg #[.int .i64 n, .slice a F.length c], .slice pa P.length pc] w fun e w' => Below w.heap.size w w' ∧ ∃ (v : Bool) (r : Int), e = .returned (.tuple #[.bool v, .int .i64 r]) ∧ ImplPost n F P v r := by
  have hmf : ∀ (fn : Fn) (first cap : Array Value) (w : World), (Instr.makeFunc fn first cap).run Try.prog w = .ok (.func fn first cap) w := fun _ _ _ _ => rfl
  have hsn := setNew
  have HIN := Lib.hid hin
  clear hin
  go_enter Try.func14, Try.ntmps14
  go_wp2_with fail
  obtain ⟨t1, t2, t3, t4, t5, t6, t7, -⟩ := three_boxes w (.int .i64 n) (.slice a F.length c) (.bool false) (.int .i64 0) (.slice pa P.length pc) 26 23 4 30 (.bool false)
  generalize hA : ((w.alloc (.cells #[.int .i64 n, .slice a F.length c] 26)).alloc (.cells #[.slice pa P.length pc] 23)).alloc (.cells #[.bool false] 4) = wA at t1 t2 t3 t4 t5 t6 t7 ⊢
  have hAs : wA.heap.size = w.heap.size + 1 + 1 + 1 := by rw [← hA]; simp
  generalize hW : wA.alloc (.cells #[.int .i64 0] 30) = W0 at t1 t2 t3 t4 t5 t6 t7
  have hin0 := HIN.out w.heap.size (w.heap.size + 1) (w.heap.size + 1 + 1) W0 t7 t1 t2 t3 t4 (by omega) (by omega)
  rw [← hAs] at t5
  have hrun := attempt_any (w := wA) (g := 30) (Good := fun W' => dv n F [P] = 0 ∧ ∃ (v : Bool) (W1 : World), (v = true ↔ Fails F (negs P)) ∧ Below W0.heap.size W0 W1 ∧ W' = W1.setCell ⟨w.heap.size + 1 + 1, 0, none⟩ (.bool v)) (Bad := fun r W' => dv n F [P] ≠ 0 ∧ r = dv n F [P] ∧ Below W0.heap.size W0 W') (enters_of Try.func30 (by kernel_rfl) rfl) (by rw [hW]; exact hin0.mono (by
    rintro e W' (⟨hd, v, W1, rfl, hv, hb, rfl⟩ | ⟨hd, rfl, hb⟩)
    · refine ⟨?_, .inl ⟨rfl, hd, v, W1, hv, hb, rfl⟩⟩
      rw [Below.heap_setCell _ _ _ _ (by simp; omega), hb.block _ (by omega)]; exact t5
    · refine ⟨?_, .inr ⟨_, rfl, hd, rfl, hb⟩⟩
      rw [hb.block _ (by omega)]; exact t5))
  refine hrun.mono ?_
  · rintro e w' ⟨r, W', rfl, rfl, (⟨rfl, hd, v, W1, hv, hb, rfl⟩ | ⟨hd, rfl, hb⟩)⟩
    · have g4 : W1.heap[w.heap.size + 1 + 1]? = some (.cells #[.bool false] 4 (0, 0)) := by rw [hb.block _ (by omega)]; exact t4
      have c0 : W1.cell? ⟨w.heap.size + 1 + 1, 0, none⟩ = some (.bool false) := by simp [World.cell?, g4]
      have c1 : (W1.setCell ⟨w.heap.size + 1 + 1, 0, none⟩ (.bool v)).cell? ⟨w.heap.size + 1 + 1, 0, none⟩ = some (.bool v) := World.cell?_setCell_same' _ _ _ (by rw [c0]; rfl)
      have hB : Below w.heap.size w ((W1.setCell ⟨w.heap.size + 1 + 1, 0, none⟩ (.bool v)).setCell ⟨wA.heap.size, 0, none⟩ (.int .i64 0)) := ((t7.trans (hb.mono t7.size)).setCell (p := ⟨w.heap.size + 1 + 1, 0, none⟩) (by show w.heap.size ≤ w.heap.size + 1 + 1; omega) _).setCell (p := ⟨wA.heap.size, 0, none⟩) (by simp; omega) _
      have c2 : ((W1.setCell ⟨w.heap.size + 1 + 1, 0, none⟩ (.bool v)).setCell ⟨wA.heap.size, 0, none⟩ (.int .i64 0)).cell? ⟨w.heap.size + 1 + 1, 0, none⟩ = some (.bool v) := (World.cell?_of_block (Below.heap_setCell _ _ _ _ (by simp; omega))).trans c1
      generalize (W1.setCell ⟨w.heap.size + 1 + 1, 0, none⟩ (.bool v)).setCell ⟨wA.heap.size, 0, none⟩ (.int .i64 0) = w2 at hB c2 ⊢
      have HB := Lib.hid hB
      have HV := Lib.hid hv
      have HD := Lib.hid hd
      clear hB hv hd hb t7 t1 t2 t3 t4 t5 hin0 c1 c0
      go_wp2
      go_ret2
      exact ⟨HB.out, v, 0, rfl, .inl ⟨HD.out, rfl, HV.out⟩⟩
    · have g4 : W'.heap[w.heap.size + 1 + 1]? = some (.cells #[.bool false] 4 (0, 0)) := by rw [hb.block _ (by omega)]; exact t4
      have c0 : W'.cell? ⟨w.heap.size + 1 + 1, 0, none⟩ = some (.bool false) := by simp [World.cell?, g4]
      have hB : Below w.heap.size w (W'.setCell ⟨wA.heap.size, 0, none⟩ (.int .i64 (dv n F [P]))) := (t7.trans (hb.mono t7.size)).setCell (p := ⟨wA.heap.size, 0, none⟩) (by simp; omega) _
      have c2 : (W'.setCell ⟨wA.heap.size, 0, none⟩ (.int .i64 (dv n F [P]))).cell? ⟨w.heap.size + 1 + 1, 0, none⟩ = some (.bool false) := (World.cell?_of_block (Below.heap_setCell _ _ _ _ (by simp; omega))).trans c0
      generalize W'.setCell ⟨wA.heap.size, 0, none⟩ (.int .i64 (dv n F [P])) = w2 at hB c2 ⊢
      have HB := Lib.hid hB
      have HD := Lib.hid hd
      clear hB hd hb t7 t1 t2 t3 t4 t5 hin0 c0
      go_wp2
      go_ret2
      exact ⟨HB.out, false, _, rfl, .inr ⟨HD.out, rfl, rfl⟩⟩

set_option maxRecDepth 100000 in
set_option maxHeartbeats 4000000 in
theorem rupImplied_any {n : Nat} {F : List (List Int)} {z : List Int} (a : Option Addr) (c : Nat) (za : Option Addr) (zc : Nat) (w : World) (hn : n ≤ 1000000) (hFl : F.length ≤ maxLen) (hFA : AllLen F) (hF : RowsR .i64 w a F) (hFr : ∀ z ∈ F, ∀ x ∈ z, Rng x)
    (hzc : z.length ≤ zc) (hzm : zc ≤ maxLen) (hz : IntsR w za z) (hzr : ∀ x ∈ z, Rng x) :
    Calls Try.prog 14 #[.agg #[.int .i64 n, .slice a F.length c], .slice za z.length zc] w fun e w' => Below w.heap.size w w' ∧ ∃ (v : Bool) (r : Int), e = .returned (.tuple #[.bool v, .int .i64 r]) ∧ ImplPost n F z v r :=
  implied_run fun _ _ _ _ hB h00 h01 h1 h2 g0 g1 => impliedIn_any hn hFl hFA (hF.below hB) hFr hzc hzm (hz.below hB) hzr h00 h01 h1 h2 g0 g1

/-! RupX -/
/-! What Check answers is one number. -/
theorem FirstBad.same {F P : List (List Int)} {k l : Nat} (h : FirstBad F P k) (g : FirstBad F P l) : k = l := by
  obtain ⟨_, h2, h3⟩ := h
  obtain ⟨_, g2, g3⟩ := g
  rcases Nat.lt_trichotomy k l with e | e | e
  · exact absurd (g3 k e) h2
  · exact e
  · exact absurd (h3 l e) g2
theorem FirstBad.notAll {F P : List (List Int)} {k : Nat} (h : FirstBad F P k) (g : AllGood F P) : False := h.2.1 (g k h.1)
theorem ChkV.same {F P : List (List Int)} {v u : Int} (h : ChkV F P v) (g : ChkV F P u) : v = u := by
  rcases h with ⟨k, rfl, hk⟩ | ⟨ha, rfl⟩ <;> rcases g with ⟨l, rfl, hl⟩ | ⟨hb, rfl⟩
  · rw [hk.same hl]
  · exact (hk.notAll hb).elim
  · exact (hl.notAll ha).elim
  · rfl

/-! Formulas of few variables are valid. -/
def InV (V : Nat) (z : List Int) : Prop := ∀ x ∈ z, -(V : Int) ≤ x ∧ x ≤ V ∧ x ≠ 0
theorem checkF_good {V : Nat} (hV : V ≤ 12) {L : List (List Int)} (hl : L.length ≤ 1000000) (hz : ∀ z ∈ L, z.length ≤ 4096) (hr : ∀ z ∈ L, InV V z) : checkF V L = 0 := by
  rw [checkF_in (by omega) (by omega)]
  exact errs_zero fun z hzz => checkI_ok _ _ (by omega) (by omega) (by have := hz z hzz; omega) (small_bad hV (hr z hzz))
theorem dv_good {V : Nat} (hV : V ≤ 12) {L P : List (List Int)} (hl : L.length ≤ 1000000) (hz : ∀ z ∈ L, z.length ≤ 4096) (hr : ∀ z ∈ L, InV V z) (hl' : P.length ≤ 1000000) (hz' : ∀ z ∈ P, z.length ≤ 4096) (hr' : ∀ z ∈ P, InV V z) : dv V L P = 0 := by
  rw [dv_ok (checkF_good hV hl hz hr)]; exact checkF_good hV hl' hz' hr'
theorem InV.rng {V : Nat} (hV : V ≤ 12) {z : List Int} (h : InV V z) : ∀ x ∈ z, Rng x := fun x hx => by
  have := h x hx; constructor <;> omega

theorem impliedOk {V : Nat} (hV : V ≤ 12) {L : List (List Int)} {z : List Int} (hl : L.length ≤ 1000000) (hz : ∀ z ∈ L, z.length ≤ 4096) (hr : ∀ z ∈ L, InV V z) (hzl : z.length ≤ 4096) (hzr : InV V z) {a : Option Addr} {c : Nat} {za : Option Addr} {zc : Nat} {w : World} (hR : RowsR .i64 w a L) (hX : IntsR w za z) (hzc : z.length ≤ zc) (hzm : zc ≤ maxLen) {l k : Nat} (hll : L.length = l) (hk : z.length = k) :
    Calls Try.prog 14 #[.agg #[.int .i64 V, .slice a l c], .slice za k zc] w fun e w' => Below w.heap.size w w' ∧ ∃ v : Bool, e = .returned (.tuple #[.bool v, .int .i64 0]) ∧ (v = true ↔ Fails L (negs z)) := by
  subst hll hk
  have hmx : maxLen = 9223372036854775807 := rfl
  refine (rupImplied_any (n := V) (F := L) (z := z) a c za zc w (by omega) (by omega) (fun y hy => by have := hz y hy; omega) hR (fun y hy => (hr y hy).rng hV) hzc hzm hX (hzr.rng hV)).mono ?_
  rintro e w' ⟨hB, v, r, rfl, h⟩
  have hd : dv V L [z] = 0 := dv_good hV hl hz hr (by simp) (fun y hy => by rw [List.mem_singleton] at hy; subst hy; omega) (fun y hy => by rw [List.mem_singleton] at hy; subst hy; exact hzr)
  rcases h with ⟨_, rfl, h⟩ | ⟨h, _⟩
  · exact ⟨hB, v, rfl, h⟩
  · exact absurd hd h
theorem checkOk {V : Nat} (hV : V ≤ 12) {L P : List (List Int)} (hl : L.length ≤ 1000000) (hz : ∀ z ∈ L, z.length ≤ 4096) (hr : ∀ z ∈ L, InV V z) (hl' : P.length ≤ 1000000) (hz' : ∀ z ∈ P, z.length ≤ 4096) (hr' : ∀ z ∈ P, InV V z) {a : Option Addr} {c : Nat} {za : Option Addr} {zc : Nat} {w : World} (hR : RowsR .i64 w a L) (hX : RowsR .i64 w za P) (hzc : P.length ≤ zc) {l k : Nat} (hll : L.length = l) (hk : P.length = k) :
    Calls Try.prog 18 #[.agg #[.int .i64 V, .slice a l c], .slice za k zc] w fun e w' => Below w.heap.size w w' ∧ ∃ v : Int, e = .returned (.tuple #[.int .i64 v, .int .i64 0]) ∧ ChkV L P v := by
  subst hll hk
  have hmx : maxLen = 9223372036854775807 := rfl
  refine (rupCheck_any (n := V) (F := L) (P := P) a c za zc w (by omega) (by omega) (fun y hy => by have := hz y hy; omega) hR (fun y hy => (hr y hy).rng hV) (by omega) hzc (fun y hy => by have := hz' y hy; omega) hX (fun y hy => (hr' y hy).rng hV)).mono ?_
  rintro e w' ⟨hB, v, r, rfl, h⟩
  have hd : dv V L P = 0 := dv_good hV hl hz hr hl' hz' hr'
  rcases h with ⟨_, rfl, h⟩ | ⟨h, _⟩
  · exact ⟨hB, v, rfl, h⟩
  · exact absurd hd h

/-! The closed example. -/
def chk5 (F : List (List Int)) (A : List Int) : List Int → List Int → Bool
  | _, [] => true
  | pre, x :: l => (decide (x ∈ A) || F.any fun c => decide (x ∈ c) && c.all fun y => y == x || decide (-y ∈ pre)) && chk5 F A (x :: pre) l
theorem chk5_sound {F : List (List Int)} {A : List Int} : ∀ {l pre : List Int}, (∀ y ∈ pre, Der F A y) → chk5 F A pre l = true → ∀ x ∈ l, Der F A x
  | [], _, _, _ => by simp
  | x :: l, pre, hp, h => by
    unfold chk5 at h
    rw [Bool.and_eq_true, Bool.or_eq_true] at h
    have hx : Der F A x := by
      rcases h.1 with h1 | h1
      · exact .assume (of_decide_eq_true h1)
      · rw [List.any_eq_true] at h1
        obtain ⟨c, hc, h2⟩ := h1
        rw [Bool.and_eq_true, List.all_eq_true] at h2
        refine .unit hc (of_decide_eq_true h2.1) fun y hy hne => ?_
        have h3 := h2.2 y hy
        rw [Bool.or_eq_true, beq_iff_eq] at h3
        rcases h3 with h3 | h3
        · exact absurd h3 hne
        · exact hp _ (of_decide_eq_true h3)
    intro y hy
    rcases List.mem_cons.1 hy with rfl | hy
    · exact hx
    · exact chk5_sound (pre := x :: pre) (fun z hz => by
        rcases List.mem_cons.1 hz with rfl | hz
        · exact hx
        · exact hp z hz) h.2 y hy
theorem fails5 {F : List (List Int)} {A l : List Int} (x : Int) (h : chk5 F A [] l = true) (h1 : x ∈ l) (h2 : -x ∈ l) : Fails F A :=
  .inr ⟨x, chk5_sound (by simp) h _ h1, chk5_sound (by simp) h _ h2⟩

def fourL : List (List Int) := [[1, 2], [1, -2], [-1, 2], [-1, -2]]
theorem four_small : fourL.length ≤ 1000000 ∧ (∀ z ∈ fourL, z.length ≤ 4096) ∧ ∀ z ∈ fourL, InV 2 z := by
  unfold InV; decide
theorem four_good : AllGood fourL [[1], []] := by
  intro j hj z hz
  match j, hz with
  | 0, hz => cases hz; exact fails5 (l := [-1, 2, 1]) 1 (by decide) (by decide) (by decide)
  | 1, hz => cases hz; exact fails5 (l := [1, 2, -1]) 1 (by decide) (by decide) (by decide)
  | n + 2, hz => simp at hz
theorem four_chk {v : Int} (h : ChkV fourL [[1], []] v) : v = -1 := h.same (.inr ⟨four_good, rfl⟩)

def X1 (w : World) (o : Obj) : World := ((((w.alloc o).alloc (.cells #[.int .i64 1, .int .i64 2] 3)).alloc (.cells #[.int .i64 1, .int .i64 (-2)] 3)).alloc (.cells #[.int .i64 (-1), .int .i64 2] 3)).alloc (.cells #[.int .i64 (-1), .int .i64 (-2)] 3)
theorem X1_size (w : World) (o : Obj) : (X1 w o).heap.size = w.heap.size + 5 := by simp [X1]
theorem X1_below (w : World) (o : Obj) : Below w.heap.size w (X1 w o) :=
  (((((Below.refl _ _).alloc (Nat.le_refl _) _).alloc (by simp) _).alloc (by simp; omega) _).alloc (by simp; omega) _).alloc (by simp; omega) _
theorem four_grid (w : World) (o : Obj) : Grid ((X1 w o).alloc (.cells #[.slice (some ⟨w.heap.size + 1, 0, none⟩) 2 2, .slice (some ⟨w.heap.size + 1 + 1, 0, none⟩) 2 2, .slice (some ⟨w.heap.size + 1 + 1 + 1, 0, none⟩) 2 2, .slice (some ⟨w.heap.size + 1 + 1 + 1 + 1, 0, none⟩) 2 2] 23)) w.heap.size (w.heap.size + 1 + 1 + 1 + 1 + 1) fourL := by
  refine ⟨by omega, by simp [X1_size], ?_, fun j => World.frozen?_alloc_at _ _ _ _ (by rw [X1_size])⟩
  intro j z hz
  have k1 : KI .i64 (X1 w o) (some ⟨w.heap.size + 1, 0, none⟩) [1, 2] := by
    unfold X1
    exact (((KI.of (IntsR.lit _ _ _ _ (by simp) rfl)).alloc _).alloc _).alloc _
  have k2 : KI .i64 (X1 w o) (some ⟨w.heap.size + 1 + 1, 0, none⟩) [1, -2] := by
    unfold X1
    exact ((KI.of (IntsR.lit _ _ _ _ (by simp) rfl)).alloc _).alloc _
  have k3 : KI .i64 (X1 w o) (some ⟨w.heap.size + 1 + 1 + 1, 0, none⟩) [-1, 2] := by
    unfold X1
    exact (KI.of (IntsR.lit _ _ _ _ (by simp) rfl)).alloc _
  have k4 : KI .i64 (X1 w o) (some ⟨w.heap.size + 1 + 1 + 1 + 1, 0, none⟩) [-1, -2] := by
    unfold X1
    exact KI.of (IntsR.lit _ _ _ _ (by simp) rfl)
  rw [World.cell?_alloc_at _ _ _ _ (by rw [X1_size])]
  match j, hz with
  | 0, hz => cases hz; exact ⟨_, 2, rfl, k1.alloc _, (fun p hp => by cases hp; simp), by decide, by decide⟩
  | 1, hz => cases hz; exact ⟨_, 2, rfl, k2.alloc _, (fun p hp => by cases hp; simp), by decide, by decide⟩
  | 2, hz => cases hz; exact ⟨_, 2, rfl, k3.alloc _, (fun p hp => by cases hp; simp), by decide, by decide⟩
  | 3, hz => cases hz; exact ⟨_, 2, rfl, k4.alloc _, (fun p hp => by cases hp; simp), by decide, by decide⟩
  | n + 4, hz => simp [fourL] at hz
theorem four_any (w : World) : Calls Try.prog 22 #[] w fun e w' => ∃ g, e = .returned (.agg #[.int .i64 2, .slice (some ⟨g, 0, none⟩) 4 4]) ∧ Grid w' w.heap.size g fourL ∧ Below w.heap.size w w' := by
  have H := fun o => Lib.hid (four_grid w o)
  have HB := fun o => Lib.hid ((X1_below w o).alloc (by rw [X1_size]; omega) (.cells #[.slice (some ⟨w.heap.size + 1, 0, none⟩) 2 2, .slice (some ⟨w.heap.size + 1 + 1, 0, none⟩) 2 2, .slice (some ⟨w.heap.size + 1 + 1 + 1, 0, none⟩) 2 2, .slice (some ⟨w.heap.size + 1 + 1 + 1 + 1, 0, none⟩) 2 2] 23))
  go_enter Try.func22, Try.ntmps22
  go_wp2
  refine bodyPost_ret (v := .agg #[.int .i64 2, .slice (some ⟨w.heap.size + 1 + 1 + 1 + 1 + 1, 0, none⟩) 4 4]) (by simp [results, Try.results22, go_sem]) rfl ⟨_, rfl, (H _).out, (HB _).out⟩

/-- A row with one number, and a list of two rows, in blocks of their own. -/
theorem rowsTwo {w : World} {a b : Option Addr} {c d : Nat} {y z : List Int} (hy : IntsR w a y) (hz : IntsR w b z) (h1 : y.length ≤ c) (h2 : c ≤ maxLen) (h3 : z.length ≤ d) (h4 : d ≤ maxLen) (T : TypeId) : RowsR .i64 (w.alloc (.cells #[.slice a y.length c, .slice b z.length d] T)) (some ⟨w.heap.size, 0, none⟩) [y, z] := by
  refine .inr ⟨w.heap.size, 0, rfl, by simp, fun j hj => ?_⟩
  match j, hj with
  | 0, _ => exact ⟨a, c, World.cell?_alloc_at _ _ _ _ rfl, KI.of (hy.alloc _), h1, h2⟩
  | 1, _ => exact ⟨b, d, World.cell?_alloc_at _ _ _ _ rfl, KI.of (hz.alloc _), h3, h4⟩
  | n + 2, hj => have h : n + 2 < 2 := hj; omega
set_option maxRecDepth 100000 in
set_option maxHeartbeats 4000000 in
theorem knownR_any (w : World) : Calls Try.prog 13 #[] w fun e w' => e = .returned (.bool true) ∧ Below w.heap.size w w' := by
  have HC : Hid (∀ v, ChkV fourL [[1], []] v → v = -1) := fun v h => four_chk h
  go_enter Try.func13, Try.ntmps13
  go_wp2_with fail
  refine (four_any _).mono ?_
  rintro e w1 ⟨g, rfl, hG, hB1⟩
  have HR := Lib.hid ((hG.rows.alloc (.cells #[.int .i64 1] 3)).alloc (.cells #[.slice (some ⟨w1.heap.size, 0, none⟩) 1 1, .slice none 0 0] 23))
  have HB := Lib.hid ((hB1.alloc hB1.size (.cells #[.int .i64 1] 3)).alloc (by simp; have := hB1.size; omega) (.cells #[.slice (some ⟨w1.heap.size, 0, none⟩) 1 1, .slice none 0 0] 23))
  have HP := Lib.hid (rowsTwo (w := w1.alloc (.cells #[.int .i64 1] 3)) (a := some ⟨w1.heap.size, 0, none⟩) (b := none) (c := 1) (d := 0) (y := [1]) (z := []) (IntsR.lit _ _ _ _ rfl rfl) (.inl rfl) (by decide) (by decide) (by decide) (by decide) 23)
  clear hG hB1
  go_wp2_with fail
  refine (checkOk (V := 2) (L := fourL) (P := [[1], []]) (l := 4) (k := 2) (by decide) four_small.1 four_small.2.1 four_small.2.2 (by decide) (by decide) (by unfold InV; decide) HR.out (by simpa using HP.out) (by decide) rfl rfl).mono ?_
  rintro e w2 ⟨hB2, v, rfl, hv⟩
  obtain rfl := HC.out v hv
  have HB2 := Lib.hid (HB.out.trans (hB2.mono HB.out.size))
  clear hB2 hv
  go_wp2
  go_ret
  exact ⟨rfl, HB2.out⟩

/-! RupY -/
theorem small12 {V : Nat} (hV : V ≤ 12) {z : List Int} (h : InV V z) : ∀ x ∈ z, -12 ≤ x ∧ x ≤ 12 ∧ x ≠ 0 := fun x hx => by
  have := h x hx; omega
theorem negs_in {V : Nat} {z : List Int} (h : InV V z) : InV V (negs z) := fun x hx => by
  have := h _ (mem_negs.1 hx); omega
theorem imp_model {V : Nat} (hV : V ≤ 12) {F : List (List Int)} {z : List Int} {m : List Bool} (hm : m.length = V) (hr : ∀ z ∈ F, InV V z) (hz : InV V z) (hF : ∀ z ∈ F, z.any (holdsL m) = true) (h : Fails F (negs z)) : z.any (holdsL m) = true := by
  cases hb : z.any (holdsL m) with
  | true => rfl
  | false =>
    exfalso
    rw [List.any_eq_false] at hb
    refine fails_model (m := m) (fun y hy => small12 hV (hr y hy)) (small12 hV (negs_in hz)) hF (fun x hx => ?_) h
    have hx' := mem_negs.1 hx
    obtain ⟨h1, h2, h3⟩ := hz _ hx'
    have hn := hb _ hx'
    rw [holds_small (by omega) (by omega) h3 (by omega)] at hn
    rw [holds_small (by omega) (by omega) (by omega) (by omega)]
    rw [Int.natAbs_neg] at hn
    obtain ⟨bb, hbb⟩ : ∃ bb, m.getD (x.natAbs - 1) false = bb := ⟨_, rfl⟩
    rw [hbb] at hn ⊢
    by_cases hp : 0 < x
    · rw [decide_eq_false (show ¬ 0 < -x by omega)] at hn; rw [decide_eq_true hp]
      cases bb
      · exact absurd rfl hn
      · rfl
    · rw [decide_eq_true (show 0 < -x by omega)] at hn; rw [decide_eq_false hp]
      cases bb
      · rfl
      · exact absurd rfl hn
theorem good_model {V : Nat} (hV : V ≤ 12) {F P : List (List Int)} {m : List Bool} (hm : m.length = V) (hr : ∀ z ∈ F, InV V z) (hp : ∀ z ∈ P, InV V z) (hF : ∀ z ∈ F, z.any (holdsL m) = true) : ∀ (k : Nat), (∀ j, j < k → GoodAt F P j) → ∀ (j : Nat) (z : List Int), j < k → P[j]? = some z → z.any (holdsL m) = true
  | 0, _, j, z, hj, _ => absurd hj (Nat.not_lt_zero _)
  | k + 1, hg, j, z, hj, hz => by
    have ih := good_model hV hm hr hp hF k fun j hj => hg j (by omega)
    by_cases e : j = k
    · subst e
      refine imp_model hV hm (F := F ++ P.take j) (fun y hy => ?_) (hp z (List.mem_of_getElem? hz)) (fun y hy => ?_) (hg j (by omega) z hz)
      · rcases List.mem_append.1 hy with h | h
        · exact hr y h
        · exact hp y (List.mem_of_mem_take h)
      · rcases List.mem_append.1 hy with h | h
        · exact hF y h
        · obtain ⟨i, hi⟩ := List.mem_iff_getElem?.1 h
          rw [List.getElem?_take] at hi
          split at hi
          · exact ih i y (by omega) hi
          · cases hi
    · exact ih j z (by omega) hz
theorem chk_range {F P : List (List Int)} {v : Int} (h : ChkV F P v) : v = -1 ∨ ∃ k : Nat, v = k ∧ k ≤ P.length := by
  rcases h with ⟨k, rfl, hk⟩ | ⟨_, rfl⟩
  · exact .inr ⟨k, rfl, Nat.le_of_lt hk.1⟩
  · split
    · exact .inl rfl
    · exact .inr ⟨_, rfl, Nat.le_refl _⟩
theorem chk_model {V : Nat} (hV : V ≤ 12) {F P : List (List Int)} {m : List Bool} {v : Int} (hm : m.length = V) (hr : ∀ z ∈ F, InV V z) (hp : ∀ z ∈ P, InV V z) (hF : ∀ z ∈ F, z.any (holdsL m) = true) (h : ChkV F P v) :
    ∃ k : Nat, v = k ∧ k ≤ P.length ∧ ∀ (j : Nat) (z : List Int), j < k → P[j]? = some z → z.any (holdsL m) = true := by
  rcases h with ⟨k, rfl, h1, h2, h3⟩ | ⟨ha, rfl⟩
  · exact ⟨k, rfl, Nat.le_of_lt h1, good_model hV hm hr hp hF k h3⟩
  · have hg := good_model hV hm hr hp hF P.length ha
    split
    · rename_i hl
      rw [List.getLast?_eq_getElem?] at hl
      have hlt := (List.getElem?_eq_some_iff.1 hl).1
      have := hg _ _ hlt hl
      simp at this
    · exact ⟨_, rfl, Nat.le_refl _, hg⟩

/-- A formula of few clauses of few variables. -/
def Ok (V : Nat) (L : List (List Int)) : Prop := L.length ≤ 30 ∧ (∀ z ∈ L, z.length ≤ 20) ∧ ∀ z ∈ L, InV V z
theorem fit_ok {V : Nat} (h1 : 1 ≤ V) (h2 : V ≤ 12) {zss : List (List Int)} (hb : fitB zss = true) : Ok V (fitL (V : Int) zss) := by
  obtain ⟨b1, b2⟩ := fitB_parts hb
  refine ⟨by rw [fitL_len]; exact b1, fun z hz => ?_, fit_range h2 h1 zss⟩
  obtain ⟨y, hy, rfl⟩ := List.mem_map.1 hz
  have g1 := fitZ_le V y
  have g2 := b2 y hy
  omega
theorem Ok.all {V : Nat} {L : List (List Int)} (h : Ok V L) : AllLen L := fun z hz => by have := h.2.1 z hz; have : maxLen = 9223372036854775807 := rfl; omega
theorem Ok.check {V : Nat} (hV : V ≤ 12) {L : List (List Int)} (h : Ok V L) : checkF V L = 0 := checkF_good hV (by have := h.1; omega) (fun z hz => by have := h.2.1 z hz; omega) h.2.2
theorem Ok.take {V : Nat} {L : List (List Int)} (h : Ok V L) (k : Nat) : Ok V (L.take k) := ⟨by have := h.1; rw [List.length_take]; omega, fun z hz => h.2.1 z (List.mem_of_mem_take hz), fun z hz => h.2.2 z (List.mem_of_mem_take hz)⟩
theorem impliedOf {V : Nat} (hV : V ≤ 12) {L : List (List Int)} (hL : Ok V L) {z : List Int} (hzl : z.length ≤ 4096) (hzr : InV V z) {a : Option Addr} {c : Nat} {za : Option Addr} {zc : Nat} {w : World} (hR : RowsR .i64 w a L) (hX : IntsR w za z) (hzc : z.length ≤ zc) (hzm : zc ≤ maxLen) {l k : Nat} (hll : L.length = l) (hk : z.length = k) :
    Calls Try.prog 14 #[.agg #[.int .i64 V, .slice a l c], .slice za k zc] w fun e w' => Below w.heap.size w w' ∧ ∃ v : Bool, e = .returned (.tuple #[.bool v, .int .i64 0]) ∧ (v = true ↔ Fails L (negs z)) :=
  impliedOk hV (by have := hL.1; omega) (fun y hy => by have := hL.2.1 y hy; omega) hL.2.2 hzl hzr hR hX hzc hzm hll hk
theorem checkOf {V : Nat} (hV : V ≤ 12) {L P : List (List Int)} (hL : Ok V L) (hl' : P.length ≤ 1000000) (hz' : ∀ z ∈ P, z.length ≤ 4096) (hr' : ∀ z ∈ P, InV V z) {a : Option Addr} {c : Nat} {za : Option Addr} {zc : Nat} {w : World} (hR : RowsR .i64 w a L) (hX : RowsR .i64 w za P) (hzc : P.length ≤ zc) {l k : Nat} (hll : L.length = l) (hk : P.length = k) :
    Calls Try.prog 18 #[.agg #[.int .i64 V, .slice a l c], .slice za k zc] w fun e w' => Below w.heap.size w w' ∧ ∃ v : Int, e = .returned (.tuple #[.int .i64 v, .int .i64 0]) ∧ ChkV L P v :=
  checkOk hV (by have := hL.1; omega) (fun y hy => by have := hL.2.1 y hy; omega) hL.2.2 hl' hz' hr' hR hX hzc hll hk
theorem checkOf' {V : Nat} (hV : V ≤ 12) {L P : List (List Int)} (hL : Ok V L) (hP : Ok V P) {a : Option Addr} {c : Nat} {za : Option Addr} {zc : Nat} {w : World} (hR : RowsR .i64 w a L) (hX : RowsR .i64 w za P) (hzc : P.length ≤ zc) {l k : Nat} (hll : L.length = l) (hk : P.length = k) :
    Calls Try.prog 18 #[.agg #[.int .i64 V, .slice a l c], .slice za k zc] w fun e w' => Below w.heap.size w w' ∧ ∃ v : Int, e = .returned (.tuple #[.int .i64 v, .int .i64 0]) ∧ ChkV L P v :=
  checkOf hV hL (by have := hP.1; omega) (fun y hy => by have := hP.2.1 y hy; omega) hP.2.2 hR hX hzc hll hk

set_option maxRecDepth 100000 in
set_option maxHeartbeats 4000000 in
theorem clauses_any (V : Nat) (h1 : 1 ≤ V) (h2 : V ≤ 12) (fv : Value) (a : Option Addr) (c : Nat) (pss : List (List Int)) (w : World) (hR : RowsR .i8 w a pss) (hA : AllLen pss) (hm : pss.length ≤ maxLen) (hwf : ∀ z ∈ pss, ∀ x ∈ z, (Lit.int .i8 x).wf = true) :
    Calls Try.prog 23 #[.agg #[.int .i64 V, fv], .slice a pss.length c] w fun e w' => Below w.heap.size w w' ∧
      ((fitB pss = false ∧ e = .returned (.tuple #[.slice none 0 0, .bool false])) ∨ (fitB pss = true ∧ ∃ pa pc, e = .returned (.tuple #[.slice pa pss.length pc, .bool true]) ∧ pss.length ≤ pc ∧ RowsR .i64 w' pa (fitL V pss))) := by
  have hB0 : Below w.heap.size w (w.alloc (.cells #[.int .i64 V, fv] 26)) := boxed w _
  have HF := Lib.hid (fit_any ((V : Int) - 1) V (by omega) (by omega) (by omega) a c pss _ (hR.below hB0) hA hm hwf)
  have HB0 := Lib.hid hB0
  have hw1 : IntKind.i64.wrap ((V : Int) - 1) = (V : Int) - 1 := IntWalk.i64_in _ (by omega)
  have hw2 : IntKind.u8.wrap ((V : Int) - 1) = (V : Int) - 1 := IntWalk.u8_in _ (by omega)
  clear hB0 hR hA hm hwf
  go_enter Try.func23, Try.ntmps23
  go_wp2_with fail
  refine HF.out.mono ?_
  rintro e w1 (⟨hf, rfl, hB1⟩ | ⟨hf, a1, c1, rfl, hc1, _, hR1, hB1⟩)
  · have HB := Lib.hid ((HB0.out.trans (hB1.mono HB0.out.size)).alloc (Nat.le_trans HB0.out.size hB1.size) (.cells #[.int .i64 0, .slice none 0 0] 26))
    have HFB := Lib.hid hf
    clear hf hB1
    go_wp2
    go_ret2
    exact ⟨HB.out, .inl ⟨HFB.out, rfl⟩⟩
  · have HB := Lib.hid ((HB0.out.trans (hB1.mono HB0.out.size)).alloc (Nat.le_trans HB0.out.size hB1.size) (.cells #[.int .i64 V, .slice a1 pss.length c1] 26))
    have HFB := Lib.hid hf
    have HR := Lib.hid (hR1.alloc (.cells #[.int .i64 V, .slice a1 pss.length c1] 26))
    have HC := Lib.hid hc1
    clear hf hB1 hR1 hc1
    go_wp2
    go_ret2
    exact ⟨HB.out, .inr ⟨HFB.out, _, _, rfl, HC.out, HR.out⟩⟩
end Go.Proofs.Ytbljkbdbiceokaa
