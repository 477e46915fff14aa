/-
  variable, place, holds, other, learn.
-/
import Derived.Test.YtbljkbdbiceokaaRupB
import Derived.Test.YtbljkbdbiceokaaPropG
import Derived.Maps.AppendAt
namespace Go.Proofs.Ytbljkbdbiceokaa
open Go.RowKit Go.Lib
open Go.RowKit (Below)

theorem rvariable_is (x : Int) (j : Nat) (h : x.natAbs = j) (hb : -9223372036854775808 < x) (hb2 : x ≤ 9223372036854775807) (w : World) : Calls Try.prog 72 #[.int .i64 x] w fun e w' => e = .returned (.int .i64 (j : Int)) ∧ w' = w := by
  by_cases h0 : x < 0
  · obtain rfl : x = -(j : Int) := by omega
    have hb3 : (j : Int) ≤ 9223372036854775807 := by omega
    have hle : -(j : Int) < (j : Int) := by omega
    clear h h0
    go_enter Try.func72, Try.ntmps72
    go_wp2
    go_ret
    exact ⟨rfl, rfl⟩
  · obtain rfl : x = (j : Int) := by omega
    have hle : ¬ ((j : Int) < -(j : Int)) := by omega
    have hb3 : (0 : Int) ≤ (j : Int) := by omega
    clear h h0
    go_enter Try.func72, Try.ntmps72
    go_wp2
    go_ret
    exact ⟨rfl, rfl⟩
theorem place_is {x : Int} {p : Nat} (h : placeN x = p) (hb : -1000000 ≤ x) (hb2 : x ≤ 1000000) (w : World) : Calls Try.prog 74 #[.int .i64 x] w fun e w' => e = .returned (.int .i64 (p : Int)) ∧ w' = w := by
  have HP : Hid ((x < 0 → -2 * x + 1 = (p : Int)) ∧ (¬ x < 0 → 2 * x = (p : Int))) := by
    unfold placeN at h
    constructor
    · intro h0; rw [if_pos h0] at h; omega
    · intro h0; rw [if_neg h0] at h; omega
  clear h
  by_cases h0 : x < 0
  · have HX := Lib.hid (HP.out.1 h0)
    go_enter Try.func74, Try.ntmps74
    go_wp2
    go_ret
    exact ⟨ret_int HX.out, rfl⟩
  · have HX := Lib.hid (HP.out.2 h0)
    go_enter Try.func74, Try.ntmps74
    go_wp2
    go_ret
    exact ⟨ret_int HX.out, rfl⟩

section
variable {B : Nat} {m : Mb} {f : Nat → Value} {tv cv : Value} {fl : Bool} {vs : List Value} {S : Sb} {w : World}
/-- Is a literal known to hold? -/
theorem rholds_is (h : PB B m f tv cv fl vs S w) {x : Int} {b : Bool} (hx : x.natAbs ≤ m.n) (hn : m.n ≤ 1000000) (hb : decide (kat S.known x = x) = b) :
    Calls Try.prog 71 #[.pointer (some ⟨m.pb, 0, none⟩), .int .i64 x] w fun e w' => e = .returned (.bool b) ∧ QuietTo w w' := by
  obtain ⟨j, hj⟩ : ∃ j, x.natAbs = j := ⟨_, rfl⟩
  have hkat : kat S.known x = S.known.getD j 0 := by unfold kat; rw [hj]
  rw [hkat] at hb
  have c0 : w.cell? ⟨m.pb, 0, none⟩ = some (.slice (some ⟨m.kb, 0, none⟩) (m.n + 1) (m.n + 1)) := h.blk.cell rfl
  have c1 := h.known (j := j) (by omega)
  have hb1 : -9223372036854775808 < x := by omega
  have hb2 : x ≤ 9223372036854775807 := by omega
  have hj1 : (0 : Int) ≤ (j : Int) := by omega
  have hj2 : (j : Int) < (m.n : Int) + 1 := by omega
  have KV := Lib.hid (fun W => rvariable_is x j hj hb1 hb2 W)
  generalize S.known.getD j 0 = k at *
  have hd : (k == x) = b := by rw [← hb]; rfl
  clear h hkat hb
  generalize m.pb = pb at *
  generalize m.kb = kb at *
  generalize m.n = n at *
  have hD := Lib.hid hd
  clear hj hx hd
  go_enter Try.func71, Try.ntmps71
  go_wp2
  go_quiet ((go_at_call 72; exact Calls.quiet_of_same (KV.out _)))
  go_wp2
  go_ret
  exact ⟨ret_bool hD.out, nq, rfl⟩
/-- The cells of a clause. -/
theorem PB.cl {g L cap : Nat} (h : PB B m f tv (.slice (some ⟨g, 0, none⟩) L cap) fl vs S w) {n : Nat} {e : Cb} (hn : S.cls[n]? = some e) :
    ∃ a c, w.cell? ⟨g, n * 4, none⟩ = some (.int .i64 e.a) ∧ w.cell? ⟨g, n * 4 + 1, none⟩ = some (.int .i64 e.b) ∧ w.cell? ⟨g, n * 4 + 2, none⟩ = some (.slice a e.lits.length c) ∧ w.cell? ⟨g, n * 4 + 3, none⟩ = some (.int .i64 e.next) ∧ IntsR w a e.lits ∧ (∀ p, a = some p → p.block < B ∧ p.block < w.heap.size) ∧ e.lits.length ≤ c ∧ c ≤ maxLen := by
  obtain ⟨a, c, h1, h2, h3, h4, h5⟩ := h.cvs n e hn
  have hL : L = S.cls.length := by
    rcases h.cls.2 with ⟨h2, _⟩ | ⟨g', cap', cur, h2, _⟩
    · cases h2
    · cases h2; rfl
  subst hL
  exact ⟨a, c, rowCell h.cls h1, rowCell h.cls h2, rowCell h.cls h3, rowCell h.cls h4, h5⟩
theorem PB.clFree {g L cap : Nat} (h : PB B m f tv (.slice (some ⟨g, 0, none⟩) L cap) fl vs S w) (i : Nat) : w.frozen? ⟨g, i, none⟩ = false := by
  have hL : L = S.cls.length := by
    rcases h.cls.2 with ⟨h2, _⟩ | ⟨g', cap', cur, h2, _⟩
    · cases h2
    · cases h2; rfl
  subst hL
  exact rowFree h.cls i
theorem other_is {p : Addr} {e : Cb} {x o : Int} (hp : p.spot = none) (h0 : w.cell? ⟨p.block, p.off, none⟩ = some (.int .i64 e.a)) (h1 : w.cell? ⟨p.block, p.off + 1, none⟩ = some (.int .i64 e.b)) (ho : otherB e x = o) :
    Calls Try.prog 78 #[.pointer (some p), .int .i64 x] w fun e w' => e = .returned (.int .i64 o) ∧ w = w' := by
  obtain ⟨b, off, sp⟩ := p
  obtain rfl : sp = none := hp
  dsimp only at h0 h1
  unfold otherB at ho
  by_cases hx : e.a = x
  · rw [if_pos hx] at ho
    have e1 : (e.a == x) = true := by simp [hx]
    have HO := Lib.hid ho
    clear hx ho
    go_enter Try.func78, Try.ntmps78
    go_wp2
    go_ret
    exact ⟨ret_int HO.out, rfl⟩
  · rw [if_neg hx] at ho
    have e1 : (e.a == x) = false := by simp [hx]
    have HO := Lib.hid ho
    clear hx ho
    go_enter Try.func78, Try.ntmps78
    go_wp2
    go_ret
    exact ⟨ret_int HO.out, rfl⟩

/-- What is not its own stays, and is not taken. -/
def Spared (w w' : World) (m : Mb) (f : Nat → Value) (tv cv tv' : Value) : Prop := ∀ b, b < w.heap.size → Foreign m f tv cv b → w'.heap[b]? = w.heap[b]? ∧ Foreign m f tv' cv b
theorem Spared.refl (w : World) (m : Mb) (f : Nat → Value) (tv cv : Value) : Spared w w m f tv cv tv := fun _ _ hf => ⟨rfl, hf⟩
theorem Spared.trans {w1 w2 w3 : World} {m : Mb} {f : Nat → Value} {t1 t2 t3 cv : Value} (h1 : Spared w1 w2 m f t1 cv t2) (hs : w1.heap.size ≤ w2.heap.size) (h2 : Spared w2 w3 m f t2 cv t3) : Spared w1 w3 m f t1 cv t3 := fun b hb hf => by
  obtain ⟨a1, a2⟩ := h1 b hb hf
  obtain ⟨b1, b2⟩ := h2 b (by omega) a2
  exact ⟨b1.trans a1, b2⟩

/-- What is behind an append to the trail, and the store of it. -/
theorem PB.learnt (h : PB B m f tv cv fl vs S w) {j : Nat} {x : Int} {o : Obj} {w1 : World} {v' : Value}
    (hown : w1.ownsRow B 3 1 v' (S.trail.length + 1) (S.trail.map (Value.int .i64) ++ [.int .i64 x])) (hg : ((w.setCell ⟨m.kb, j, none⟩ (.int .i64 x)).alloc o).grownBy w1 tv.ownBlock) (hat : v'.ownBlock = tv.ownBlock ∨ v'.ownBlock = some (w.heap.size + 1)) :
    PB B m f v' cv fl vs { S with known := S.known.set j x, trail := S.trail ++ [x] } (w1.setCell ⟨m.pb, 1, none⟩ v') ∧ Below B w (w1.setCell ⟨m.pb, 1, none⟩ v') ∧ Spared w (w1.setCell ⟨m.pb, 1, none⟩ v') m f tv cv v' ∧
      w1.cell? ⟨m.pb, 1, none⟩ = some tv ∧ w1.frozen? ⟨m.pb, 1, none⟩ = false := by
  obtain ⟨h1, hB1⟩ := h.knSet j x
  generalize hw0 : w.setCell ⟨m.kb, j, none⟩ (.int .i64 x) = w0 at h1 hB1 hg
  have hs0 : w0.heap.size = w.heap.size := by rw [← hw0]; simp
  have hsz : w0.heap.size ≤ w1.heap.size := by have := hg.size; simp at this; omega
  have hst : ∀ b, b < w0.heap.size → tv.ownBlock ≠ some b → w1.heap[b]? = w0.heap[b]? := fun b hb hf => (hg.block b (by simp; omega) (fun e => hf e.symm)).trans ((boxed w0 o).block b hb)
  obtain ⟨h2, h3⟩ := h1.trSet (t := S.trail ++ [x]) hsz hst (by rw [List.length_append, List.map_append]; exact hown) (fun g hg' => by
    rcases hat with e | e
    · left; rw [← e]; exact hg'
    · right; rw [e] at hg'; injection hg' with hg'; omega)
  have hpb := h1.lt 0 _ rfl
  have hne : tv.ownBlock ≠ some m.pb := fun e => absurd (h1.ap 3 0 _ e rfl) (by omega)
  refine ⟨h2, ?_, fun b hb hf => ⟨?_, fun i => ?_⟩, ?_, ?_⟩
  · refine hB1.trans ?_
    have h4 : Below B w0 w1 := ((boxed w0 o).mono h1.size).grown hg (by simp; have := h1.size; omega) (fun b hb => (h1.lt 3 b hb).1)
    exact h4.setCell hpb.1 _
  · rw [h3 b (by omega) (fun e => hf 0 (by rw [e]; rfl)) (fun e => hf 3 e), ← hw0]
    exact setCell_block w _ _ (fun e => hf 1 (by rw [e]; rfl))
  · match i with
    | 0 => exact hf 0
    | 1 => exact hf 1
    | 2 => exact hf 2
    | 3 =>
      show v'.ownBlock ≠ some b
      rcases hat with e | e
      · rw [e]; exact hf 3
      · rw [e]; intro e'; injection e' with e'; omega
    | 4 => exact hf 4
    | p + 5 => exact hf (p + 5)
  · rw [World.cell?_of_block (a := ⟨m.pb, 1, none⟩) (hst _ hpb.2 hne)]; exact h1.blk.cell rfl
  · rw [World.frozen?_of_block (a := ⟨m.pb, 1, none⟩) (hst _ hpb.2 hne)]; exact h1.blk.free 1

set_option maxRecDepth 100000 in
set_option maxHeartbeats 1000000 in
theorem blearn_any (h : PB B m f tv cv fl vs S w) {x : Int} (hx : x.natAbs ≤ m.n) (hn : m.n ≤ 1000000) (hroom : kat S.known x = 0 → S.trail.length ≤ 1000000) :
    Calls Try.prog 65 #[.pointer (some ⟨m.pb, 0, none⟩), .int .i64 x] w fun e w' => e = .returned (.bool (learnB S x).2) ∧ (∃ tv', PB B m f tv' cv fl vs (learnB S x).1 w' ∧ Spared w w' m f tv cv tv') ∧ Below B w w' := by
  obtain ⟨j, hj⟩ : ∃ j, x.natAbs = j := ⟨_, rfl⟩
  have hkat : kat S.known x = S.known.getD j 0 := by unfold kat; rw [hj]
  have c0 : w.cell? ⟨m.pb, 0, none⟩ = some (.slice (some ⟨m.kb, 0, none⟩) (m.n + 1) (m.n + 1)) := h.blk.cell rfl
  have c2 := h.known (j := j) (by omega)
  have f2 : w.frozen? ⟨m.kb, j, none⟩ = false := h.kn.free j
  have hb1 : -9223372036854775808 < x := by omega
  have hb2 : x ≤ 9223372036854775807 := by omega
  have hj1 : (0 : Int) ≤ (j : Int) := by omega
  have hj2 : (j : Int) < (m.n : Int) + 1 := by omega
  have KV := Lib.hid (fun W => rvariable_is x j hj hb1 hb2 W)
  have HP := Lib.hid h
  have HX := Lib.hid hx
  by_cases h0 : kat S.known x = 0
  · have hL : (learnB S x).2 = true := by unfold learnB; rw [if_pos h0]
    have hS : (learnB S x).1 = { S with known := S.known.set j x, trail := S.trail ++ [x] } := by unfold learnB; rw [if_pos h0, hj]
    have hK : (S.known.set j x).getD j 0 = x := by
      rw [List.getD_eq_getElem?_getD, List.getElem?_set_self (by rw [h.klen]; omega)]; rfl
    obtain ⟨ta, tc, htv⟩ := cvForm h.tr
    have HS := Lib.hid hS
    have HR := Lib.hid (hroom h0)
    have HKN := Lib.hid hK
    rw [hL]
    rw [← hkat, h0] at c2
    have e1 : (x == x) = true := by simp
    have HJ := Lib.hid hj
    obtain ⟨i0, hi, hz0, hz1, hz2⟩ := info_parts Try.info3
    have c1 : w.cell? ⟨m.pb, 1, none⟩ = some (.slice ta S.trail.length tc) := by rw [← htv]; exact h.blk.cell rfl
    have c1k : ∀ q, ((w.drewN q).setCell ⟨m.kb, j, none⟩ (.int .i64 x)).cell? ⟨m.pb, 1, none⟩ = some (.slice ta S.trail.length tc) := fun q => by
      rw [World.cell?_of_block (a := ⟨m.pb, 1, none⟩) (setCell_block _ _ _ (h.ne (i := 0) (j := 1) rfl rfl (by omega)))]; exact c1
    have HTV := Lib.hid htv
    clear hroom hL hS h h0 hkat hj hx hK htv
    go_enter Try.func65, Try.ntmps65
    go_wp2
    go_quiet ((go_at_call 72; exact Calls.quiet_of_same (KV.out _)))
    have HP2 := Lib.hid (HP.out.below (quietBelow ⟨nq, rfl⟩ _ : Below w.heap.size w (w.drewN nq)))
    have HQ := Lib.hid (quietBelow ⟨nq, rfl⟩ B : Below B w (w.drewN nq))
    have c1n := c1k nq
    have HRO := Lib.hid (World.ownsRow.alloc ((HP2.out.knSet j x).1.tr) (.cells #[.int .i64 x] 3))
    rw [HTV.out] at HRO
    have HSB : Hid (B ≤ ((w.drewN nq).setCell ⟨m.kb, j, none⟩ (.int .i64 x)).heap.size) := (HP2.out.knSet j x).1.size
    go_wp2_with (at_builtin; refine wpList_append_own_at _ rfl _ _ 23 rfl B 3 i0 (.int .i64 0) 1 8 Try.underlying23 hi hz0 hz1 hz2 rfl (by decide) _ _ _ rfl HRO.out ⟨w.heap.size, 0, none⟩ 1 1 [.int .i64 x] rfl rfl (one_new (by simp)) one_int ?c3 ?c4 ?c5 ?_)
    case c3 => have := HR.out; unfold maxLen; omega
    case c4 => have := HR.out; omega
    case c5 => have := HSB.out; simp at this ⊢; omega
    intro v' w1 hown hgrow _ hat
    obtain ⟨g, cap, rfl⟩ := Go.Joins.ownsRow_form hown (by omega)
    have HL := Lib.hid (HP2.out.learnt hown (by rw [HTV.out]; exact hgrow) (by rw [HTV.out]; exact hat))
    have c3 := HL.out.2.2.2.1
    have f3 := HL.out.2.2.2.2
    rw [HTV.out] at c3
    clear hown hgrow hat c1n c1k c1 c0 c2
    have c4 := HL.out.1.known (j := j) (by rw [← HJ.out]; exact HX.out)
    dsimp only at c4
    rw [HKN.out] at c4
    go_wp2
    go_ret
    rw [HS.out]
    refine ⟨rfl, ⟨_, HL.out.1, fun b hb hf => HL.out.2.2.1 b hb hf⟩, HQ.out.trans HL.out.2.1⟩
  · have hL : (learnB S x).2 = decide (S.known.getD j 0 = x) := by unfold learnB; rw [if_neg h0, hkat]
    have hS : (learnB S x).1 = S := by unfold learnB; rw [if_neg h0]
    rw [hL, hS]
    rw [hkat] at h0
    generalize S.known.getD j 0 = k at *
    have e1 : (k == 0) = false := by simpa using h0
    have HD : Hid ((k == x) = decide (k = x)) := rfl
    clear hroom hL hS h h0 hkat hj hx f2
    go_enter Try.func65, Try.ntmps65
    go_wp2
    go_quiet ((go_at_call 72; exact Calls.quiet_of_same (KV.out _)))
    go_wp2
    go_ret
    exact ⟨ret_bool HD.out, ⟨_, HP.out.below (quietBelow ⟨nq, rfl⟩ _), fun b hb hf => ⟨rfl, hf⟩⟩, quietBelow ⟨nq, rfl⟩ _⟩
end
end Go.Proofs.Ytbljkbdbiceokaa
