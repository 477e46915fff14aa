/-
  What the laws call: known, made, all, same.
-/
import Derived.Test.YtfighepopmaimaaOrdH
namespace Go.Proofs.Ytfighepopmaimaa
open Go.RowKit Go.Lib
open Go.RowKit (Below)

/-- A heap of the call's own, with nothing else changed below. -/
def Cur (w0 : World) (p : Nat) (A : Hs) (w : World) : Prop := ∃ fs, HeapA p A fs w ∧ (∀ g, g ∈ fs → w0.heap.size ≤ g) ∧ Below w0.heap.size w0 w
section
variable {w0 w w' : World} {p : Nat} {A A' : Hs}
theorem Cur.step {fs : List Nat} (hf : ∀ g, g ∈ fs → w0.heap.size ≤ g) (hb : Below w0.heap.size w0 w) (h : Step p A' fs w w') : Cur w0 p A' w' := by
  obtain ⟨fs', h1, h2, h3⟩ := h
  refine ⟨fs', h1, fun g hg => ?_, hb.trans (h2.below hf hb.size)⟩
  rcases h3 g hg with h4 | h4
  · exact hf g h4
  · have := hb.size; omega
theorem Cur.new (w : World) {n : Nat} (hn : n ≤ 1048576) : Calls Try.prog 12 #[.int .i64 n] w fun r w' => ∃ p, r = .returned (.tuple #[.pointer (some ⟨p, 0, none⟩), .int .i64 0]) ∧ Cur w p (Hs.new n) w' := by
  refine (newA_ok w hn).mono ?_
  rintro r w' ⟨p, fs, hr, h, hb, hf⟩
  exact ⟨p, hr, fs, h, hf, hb⟩
theorem Cur.bump (h : Cur w0 p A w) (v b : Int) : Calls Try.prog 14 #[.pointer (some ⟨p, 0, none⟩), .int .i64 v, .int .i64 b] w fun r w' => r = .returned (.int .i64 (A.bumpE v b)) ∧ Cur w0 p (A.bumpA v b) w' := by
  obtain ⟨fs, h1, h2, h3⟩ := h
  refine (bump_any h1 v b).mono ?_
  rintro r w' ⟨hr, hs⟩
  exact ⟨hr, Cur.step h2 h3 hs⟩
theorem Cur.pop (h : Cur w0 p A w) : Calls Try.prog 16 #[.pointer (some ⟨p, 0, none⟩)] w fun r w' => r = .returned (.tuple #[.int .i64 A.popV, .int .i64 A.popE]) ∧ Cur w0 p A.popA w' := by
  obtain ⟨fs, h1, h2, h3⟩ := h
  refine (pop_all h1).mono ?_
  rintro r w' ⟨hr, hs⟩
  exact ⟨hr, Cur.step h2 h3 hs⟩
theorem Cur.push (h : Cur w0 p A w) (v : Int) : Calls Try.prog 18 #[.pointer (some ⟨p, 0, none⟩), .int .i64 v] w fun r w' => r = .returned (.int .i64 (A.pushE v)) ∧ Cur w0 p (A.pushA v) w' := by
  obtain ⟨fs, h1, h2, h3⟩ := h
  refine (push_any h1 v).mono ?_
  rintro r w' ⟨hr, hs⟩
  exact ⟨hr, Cur.step h2 h3 hs⟩
theorem Cur.has (h : Cur w0 p A w) (v : Int) : Calls Try.prog 20 #[.pointer (some ⟨p, 0, none⟩), .int .i64 v] w fun r w' => r = .returned (.bool (A.hasB v)) ∧ w = w' := by
  obtain ⟨fs, h1, _⟩ := h
  exact has_any h1 v
theorem Cur.len (h : Cur w0 p A w) : Calls Try.prog 22 #[.pointer (some ⟨p, 0, none⟩)] w fun r w' => r = .returned (.int .i64 A.lenN) ∧ w = w' := by
  obtain ⟨fs, h1, _⟩ := h
  exact len_any h1
end

def kA1 : Hs := (Hs.new 3).bumpA 3 1
def kA2 : Hs := kA1.bumpA 2 1
set_option maxHeartbeats 1000000 in
theorem known_any (w : World) : Calls Try.prog 11 #[] w fun r w' => r = .returned (.bool true) ∧ Below w.heap.size w w' := by
  have K0 : Hid (Calls Try.prog 12 #[.int .i64 3] w fun r w' => ∃ p, r = .returned (.tuple #[.pointer (some ⟨p, 0, none⟩), .int .i64 0]) ∧ Cur w p (Hs.new 3) w') := Cur.new w (n := 3) (by omega)
  have K1 : Hid (∀ p W, Cur w p (Hs.new 3) W → Calls Try.prog 14 #[.pointer (some ⟨p, 0, none⟩), .int .i64 3, .int .i64 1] W fun r w' => r = .returned (.int .i64 0) ∧ Cur w p kA1 w') := fun p W h => h.bump 3 1
  have K2 : Hid (∀ p W, Cur w p kA1 W → Calls Try.prog 14 #[.pointer (some ⟨p, 0, none⟩), .int .i64 2, .int .i64 1] W fun r w' => r = .returned (.int .i64 0) ∧ Cur w p kA2 w') := fun p W h => h.bump 2 1
  have K3 : Hid (∀ p W, Cur w p kA2 W → Calls Try.prog 16 #[.pointer (some ⟨p, 0, none⟩)] W fun r w' => r = .returned (.tuple #[.int .i64 2, .int .i64 0]) ∧ Cur w p kA2.popA w') := fun p W h => h.pop
  have K4 : Hid (∀ p W, Cur w p kA2.popA W → Calls Try.prog 16 #[.pointer (some ⟨p, 0, none⟩)] W fun r w' => r = .returned (.tuple #[.int .i64 3, .int .i64 0]) ∧ Cur w p kA2.popA.popA w') := fun p W h => h.pop
  have K5 : Hid (∀ p W, Cur w p kA2.popA.popA W → Calls Try.prog 16 #[.pointer (some ⟨p, 0, none⟩)] W fun r w' => r = .returned (.tuple #[.int .i64 1, .int .i64 0]) ∧ Cur w p kA2.popA.popA.popA w') := fun p W h => h.pop
  have K6 : Hid (∀ p W, Cur w p kA2.popA.popA.popA W → Calls Try.prog 16 #[.pointer (some ⟨p, 0, none⟩)] W fun r w' => r = .returned (.tuple #[.int .i64 0, .int .i64 6]) ∧ Cur w p kA2.popA.popA.popA w') := fun p W h => h.pop
  go_enter Try.func11, Try.ntmps11
  go_wp2_with (first | (go_at_call 12; refine K0.out.mono ?_; rintro r w1 ⟨p, rfl, hc⟩; have H1 := Lib.hid hc; clear hc) | (go_at_call 14; ((with_reducible refine (K1.out _ _ H1.out).mono ?_); rintro r w2 ⟨rfl, hc⟩; have H2 := Lib.hid hc; clear hc)) | (go_at_call 14; ((with_reducible refine (K2.out _ _ H2.out).mono ?_); rintro r w3 ⟨rfl, hc⟩; have H3 := Lib.hid hc; clear hc)) | (go_at_call 16; ((with_reducible refine (K3.out _ _ H3.out).mono ?_); rintro r w4 ⟨rfl, hc⟩; have H4 := Lib.hid hc; clear hc)) | (go_at_call 16; ((with_reducible refine (K4.out _ _ H4.out).mono ?_); rintro r w5 ⟨rfl, hc⟩; have H5 := Lib.hid hc; clear hc)) | (go_at_call 16; ((with_reducible refine (K5.out _ _ H5.out).mono ?_); rintro r w6 ⟨rfl, hc⟩; have H6 := Lib.hid hc; clear hc)) | (go_at_call 16; ((with_reducible refine (K6.out _ _ H6.out).mono ?_); rintro r w7 ⟨rfl, hc⟩; have H7 := Lib.hid hc; clear hc)))
  go_ret
  obtain ⟨_, _, _, hb⟩ := H7.out
  exact ⟨rfl, hb⟩

/-! made -/
def madeTo (zs : List Int) (k : Nat) : Hs := ⟨zs.length, fun e => if e < k then zs.getD e 0 else 0, fun _ => true⟩
def madeA (zs : List Int) : Hs := ⟨zs.length, fun e => zs.getD e 0, fun _ => true⟩
theorem madeTo_all (zs : List Int) : madeTo zs zs.length = madeA zs := by
  unfold madeTo madeA
  congr 1
  funext e
  by_cases h : e < zs.length
  · rw [if_pos h]
  · rw [if_neg h, List.getD_eq_getElem?_getD, List.getElem?_eq_none (by omega)]; rfl
theorem madeTo_bump {zs : List Int} {k : Nat} (hk : k < zs.length) (h0 : 0 ≤ zs.getD k 0) (h1 : zs.getD k 0 ≤ 65535) : (madeTo zs k).bumpE ((k : Int) + 1) (zs.getD k 0) = 0 ∧ (madeTo zs k).bumpA ((k : Int) + 1) (zs.getD k 0) = madeTo zs (k + 1) := by
  have ha : (madeTo zs k).act k = 0 := by show (if k < k then _ else _) = _; rw [if_neg (by omega)]
  obtain ⟨h2, h3⟩ := (madeTo zs k).bumpE_good (e := k) hk h0 (by omega) (by rw [ha]; omega)
  refine ⟨h2, h3.trans ?_⟩
  rw [ha, Int.zero_add]
  unfold madeTo
  congr 1
  funext e
  unfold upN
  by_cases h4 : e = k
  · rw [if_pos h4, if_pos (by omega), h4]
  · rw [if_neg h4]
    dsimp only
    by_cases h5 : e < k
    · rw [if_pos h5, if_pos (by omega)]
    · rw [if_neg h5, if_neg (by omega)]
/-- A slice of uint16 that came in. -/
def U16R (w : World) (a : Option Addr) (zs : List Int) : Prop :=
  zs.length = 0 ∨ ∃ b off, a = some ⟨b, off, none⟩ ∧ b < w.heap.size ∧ ∀ j, j < zs.length → w.cell? ⟨b, off + j, none⟩ = some (.int .u16 (zs.getD j 0))
theorem U16R.at {w : World} {a : Option Addr} {zs : List Int} (h : U16R w a zs) {k : Nat} (hk : k < zs.length) : ∃ b off, a = some ⟨b, off, none⟩ ∧ w.cell? ⟨b, off + k, none⟩ = some (.int .u16 (zs.getD k 0)) := by
  rcases h with h | ⟨b, off, ha, _, hc⟩
  · omega
  · exact ⟨b, off, ha, hc k hk⟩
theorem U16R.below {w w' : World} {a : Option Addr} {zs : List Int} (h : U16R w a zs) (hb : Below w.heap.size w w') : U16R w' a zs := by
  rcases h with h | ⟨b, off, ha, hs, hc⟩
  · exact .inl h
  · exact .inr ⟨b, off, ha, Nat.lt_of_lt_of_le hs hb.size, fun j hj => by rw [hb.cell (p := ⟨b, off + j, none⟩) hs]; exact hc j hj⟩
def Small (zs : List Int) : Prop := ∀ k, k < zs.length → 0 ≤ zs.getD k 0 ∧ zs.getD k 0 ≤ 65535
theorem Small.of {zs : List Int} (h : ∀ x ∈ zs, (Lit.int .u16 x).wf = true) : Small zs := fun k hk => by
  have := h (zs.getD k 0) (List.mem_of_getElem? (getD_some zs 0 k hk))
  simp [Lit.wf, IntKind.min, IntKind.max, IntKind.bits, IntKind.signed] at this
  exact this
set_option maxHeartbeats 1000000 in
theorem made_any {a : Option Addr} {c : Nat} {zs : List Int} {w : World} (hR : U16R w a zs) (hs : Small zs) (hl : zs.length ≤ 200) :
    Calls Try.prog 26 #[.slice a zs.length c] w fun r w' => ∃ p, r = .returned (.pointer (some ⟨p, 0, none⟩)) ∧ Cur w p (madeA zs) w' := by
  have K0 := Lib.hid (Cur.new w (n := zs.length) (by omega))
  have HR := Lib.hid hR
  have HS := Lib.hid hs
  have hll : (zs.length : Int) ≤ 200 := by omega
  clear hR hs
  go_enter Try.func26, Try.ntmps26
  go_wp2_with (first | (go_at_call 12; refine K0.out.mono ?_; rintro r w1 ⟨p, rfl, hc⟩; have H1 := Lib.hid hc; clear hc))
  have H2 : Hid (Cur w p (madeTo zs 0) w1) := by
    have h : madeTo zs 0 = Hs.new zs.length := by
      unfold madeTo Hs.new; congr 1
    rw [h]; exact H1.out
  clear H1
  go_loopw [5] (fun t wr => ∃ k : Nat, t = .int .i64 k ∧ k ≤ zs.length ∧ Hid (Cur w p (madeTo zs k) wr)) (fun t _ => zs.length - (intOf t).toNat)
  case atStart => exact ⟨0, rfl, Nat.zero_le _, H2⟩
  case round =>
    obtain ⟨k, rfl, hk, HC⟩ := hrel
    by_cases hlt : k < zs.length
    · have hbl : Below w.heap.size w wr := by obtain ⟨_, _, _, h⟩ := HC.out; exact h
      obtain ⟨b, off, ha, hcell⟩ := (HR.out.below hbl).at hlt
      obtain ⟨x0, x1⟩ := HS.out k hlt
      obtain ⟨e1, e2⟩ := madeTo_bump hlt x0 x1
      have KB := HC.out.bump ((k : Int) + 1) (zs.getD k 0)
      rw [e1, e2] at KB
      have KB := Lib.hid KB
      generalize zs.getD k 0 = x at *
      subst ha
      clear e1 e2 HR H2 hbl HS
      go_wp2_with (first | (go_at_call 14; refine KB.out.mono ?_; rintro r w2 ⟨rfl, hc⟩; have H3 := Lib.hid hc; clear hc))
      go_roundw
      case rel => exact ⟨k + 1, by go_num, by omega, H3⟩
      case measure => simp [intOf]; omega
    · obtain rfl : k = zs.length := by omega
      have H3 := HC.out
      rw [madeTo_all] at H3
      have H4 := Lib.hid H3
      clear H3 HC H2 HR HS hlt
      go_wp2
      go_ret
      exact ⟨p, rfl, H4.out⟩

/-! all -/
namespace Hs
/-- Behind k pops. -/
def after : Nat → Hs → Hs
  | 0, A => A
  | k + 1, A => after k A.popA
/-- What is popped, at most k times. -/
def popL : Nat → Hs → List Nat
  | 0, _ => []
  | k + 1, A => match A.best with | none => [] | some e => e :: popL k A.popA
def popAll (A : Hs) : List Nat := popL A.n A
def emptied (A : Hs) : Hs := after (popAll A).length A
theorem after_succ : ∀ (k : Nat) (A : Hs), after (k + 1) A = (after k A).popA
  | 0, _ => rfl
  | k + 1, A => after_succ k A.popA
theorem popA_n (A : Hs) : A.popA.n = A.n := by unfold popA; cases A.best <;> rfl
theorem after_n : ∀ (k : Nat) (A : Hs), (after k A).n = A.n
  | 0, _ => rfl
  | k + 1, A => (after_n k A.popA).trans (popA_n A)
theorem popL_len_le : ∀ (k : Nat) (A : Hs), (popL k A).length ≤ k
  | 0, _ => Nat.le_refl 0
  | k + 1, A => by
    unfold popL
    cases A.best with
    | none => exact Nat.zero_le _
    | some e => exact Nat.succ_le_succ (popL_len_le k A.popA)
theorem popL_more : ∀ (k : Nat) (A : Hs), (popL k A).length = k → ∀ e, (after k A).best = some e → popL (k + 1) A = popL k A ++ [e]
  | 0, A, _, e, h => by
    have h1 : A.best = some e := h
    unfold popL; rw [h1]; rfl
  | k + 1, A, hl, e, h => by
    have h0 : popL (k + 1) A = match A.best with | none => [] | some e => e :: popL k A.popA := rfl
    rw [h0] at hl ⊢
    cases hb : A.best with
    | none => rw [hb] at hl; cases hl
    | some f =>
      rw [hb] at hl
      dsimp only at hl ⊢
      have ih := popL_more k A.popA (by simpa using hl) e h
      have h1 : popL (k + 1 + 1) A = match A.best with | none => [] | some e => e :: popL (k + 1) A.popA := rfl
      rw [h1, hb]
      dsimp only
      rw [ih]; rfl
theorem popL_stop : ∀ (k : Nat) (A : Hs), (popL k A).length = k → (after k A).best = none → ∀ m, k ≤ m → popL m A = popL k A
  | 0, A, _, h, m, _ => by
    have h1 : A.best = none := h
    cases m with
    | zero => rfl
    | succ m => unfold popL; rw [h1]
  | k + 1, A, hl, h, m, hm => by
    cases m with
    | zero => omega
    | succ m =>
      have h0 : ∀ j, popL (j + 1) A = match A.best with | none => [] | some e => e :: popL j A.popA := fun _ => rfl
      rw [h0 k] at hl
      rw [h0 k, h0 m]
      cases hb : A.best with
      | none => rfl
      | some f =>
        rw [hb] at hl
        dsimp only at hl ⊢
        rw [popL_stop k A.popA (by simpa using hl) h m (by omega)]
/-- The elements that are in it go down by one. -/
theorem cnt_pop {A : Hs} {e : Nat} (h : A.best = some e) : A.popA.cnt A.n + 1 = A.cnt A.n := by
  obtain ⟨he, hi⟩ := bestN_some h
  have hp : A.popA = { A with inn := upN A.inn e false } := by unfold popA; rw [h]
  have key : ∀ k, A.popA.cnt k + (if e < k then 1 else 0) = A.cnt k := by
    intro k
    induction k with
    | zero => rfl
    | succ k ih =>
      rw [cnt_succ, cnt_succ]
      have hk : A.popA.inn k = upN A.inn e false k := by rw [hp]
      rw [hk]
      by_cases h1 : k = e
      · subst h1
        rw [upN_same, hi]
        rw [if_neg (by omega)] at ih
        simp; omega
      · rw [upN_other _ _ h1]
        by_cases h2 : e < k
        · rw [if_pos h2] at ih; rw [if_pos (show e < k + 1 by omega)]; omega
        · rw [if_neg h2] at ih; rw [if_neg (show ¬ e < k + 1 by omega)]; omega
  have := key A.n
  rw [if_pos he] at this; exact this
theorem cnt_after : ∀ (k : Nat) (A : Hs), (popL k A).length = k → (after k A).cnt A.n + k = A.cnt A.n
  | 0, _, _ => rfl
  | k + 1, A, hl => by
    have h0 : popL (k + 1) A = match A.best with | none => [] | some e => e :: popL k A.popA := rfl
    rw [h0] at hl
    cases hb : A.best with
    | none => rw [hb] at hl; cases hl
    | some f =>
      rw [hb] at hl
      have ih := cnt_after k A.popA (by simpa using hl)
      have h1 := cnt_pop hb
      rw [popA_n] at ih
      show (after k A.popA).cnt A.n + (k + 1) = _
      omega
theorem cnt_le (A : Hs) (k : Nat) : A.cnt k ≤ k := by
  unfold cnt
  have := List.length_filter_le A.inn (List.range k)
  simpa using this
theorem popL_len_n {A : Hs} {k : Nat} (hl : (popL k A).length = k) : k ≤ A.n := by
  have := cnt_after k A hl
  have := cnt_le A A.n
  omega
theorem popAll_stop {A : Hs} {k : Nat} (hl : (popL k A).length = k) (h : (after k A).best = none) : popAll A = popL k A ∧ emptied A = after k A := by
  have h1 : popAll A = popL k A := popL_stop k A hl h A.n (popL_len_n hl)
  exact ⟨h1, by unfold emptied; rw [h1, hl]⟩
end Hs
/-- A slice of the call's own that lies apart from a heap. -/
def Apart (B : Nat) (v : Value) (zs : List Int) (fs : List Nat) (w : World) : Prop := w.ownsRow B 3 1 v zs.length (zs.map (Value.int .i64)) ∧ ∀ g, v.ownBlock = some g → g ∉ fs
theorem Apart.step {B : Nat} {v : Value} {zs : List Int} {fs fs' : List Nat} {w w' : World} (h : Apart B v zs fs w) (ht : Touch fs w w') (hn : ∀ g, g ∈ fs' → g ∈ fs ∨ w.heap.size ≤ g) : Apart B v zs fs' w' :=
  ⟨rowStays h.1 fun g hg _ => ht.block g (h.1.lt g hg).2 (h.2 g hg), fun g hg hm => by
    rcases hn g hm with h1 | h1
    · exact h.2 g hg h1
    · have := (h.1.lt g hg).2; omega⟩
def listOf (A : Hs) : List Int := A.popAll.map fun (e : Nat) => (e : Int) + 1
def listTo (k : Nat) (A : Hs) : List Int := (Hs.popL k A).map fun (e : Nat) => (e : Int) + 1
/-- What a walk that pops into a slice holds. -/
def Popping (W : World) (fs0 : List Nat) (p : Nat) (A : Hs) (v : Value) (k : Nat) (w : World) : Prop :=
  ∃ fs, HeapA p (A.after k) fs w ∧ Touch fs0 W w ∧ (∀ g, g ∈ fs → g ∈ fs0 ∨ W.heap.size ≤ g) ∧ Apart W.heap.size v (listTo k A) fs w ∧ (Hs.popL k A).length = k
/-- What all leaves. -/
def AllPost (W : World) (fs0 : List Nat) (p : Nat) (A : Hs) (v : Value) (w : World) : Prop :=
  ∃ fs, HeapA p A.emptied fs w ∧ Touch fs0 W w ∧ (∀ g, g ∈ fs → g ∈ fs0 ∨ W.heap.size ≤ g) ∧ Apart W.heap.size v (listOf A) fs w
theorem Popping.done {W : World} {fs0 : List Nat} {p : Nat} {A : Hs} {v : Value} {k : Nat} {w : World} (h : Popping W fs0 p A v k w) (hb : (A.after k).best = none) : AllPost W fs0 p A v w := by
  obtain ⟨fs, h1, h2, h3, h4, h5⟩ := h
  obtain ⟨e1, e2⟩ := Hs.popAll_stop h5 hb
  refine ⟨fs, by rw [e2]; exact h1, h2, h3, ?_⟩
  unfold listOf; rw [e1]; exact h4
/-- Behind the pop of one. -/
def Popped (W : World) (fs0 : List Nat) (p : Nat) (A : Hs) (v : Value) (k : Nat) (w : World) : Prop :=
  ∃ fs, HeapA p (A.after (k + 1)) fs w ∧ Touch fs0 W w ∧ (∀ g, g ∈ fs → g ∈ fs0 ∨ W.heap.size ≤ g) ∧ Apart W.heap.size v (listTo k A) fs w ∧ (Hs.popL k A).length = k
theorem Popping.pop {W : World} {fs0 : List Nat} {p : Nat} {A : Hs} {v : Value} {k : Nat} {w : World} (h : Popping W fs0 p A v k w) :
    Calls Try.prog 16 #[.pointer (some ⟨p, 0, none⟩)] w fun r w' => r = .returned (.tuple #[.int .i64 (A.after k).popV, .int .i64 (A.after k).popE]) ∧ Popped W fs0 p A v k w' := by
  obtain ⟨fs, h1, h2, h3, h4, h5⟩ := h
  refine (pop_all h1).mono ?_
  rintro r w' ⟨hr, fs', g1, g2, g3⟩
  refine ⟨hr, fs', by rw [Hs.after_succ]; exact g1, h2.then_ h3 g2, fun g hg => ?_, h4.step g2 g3, h5⟩
  rcases g3 g hg with h6 | h6
  · exact h3 g h6
  · have := h2.size; right; omega
/-- Behind the append. -/
theorem Popped.append {W : World} {fs0 : List Nat} {p : Nat} {A : Hs} {v v' : Value} {k e : Nat} {w w1 : World} {o : Obj} (h : Popped W fs0 p A v k w) (he : (A.after k).best = some e)
    (hown : w1.ownsRow W.heap.size 3 1 v' ((listTo k A).length + 1) ((listTo k A).map (Value.int .i64) ++ [.int .i64 ((e : Int) + 1)])) (hg : (w.alloc o).grownBy w1 v.ownBlock) (hat : v'.ownBlock = v.ownBlock ∨ v'.ownBlock = some (w.heap.size + 1)) : Popping W fs0 p A v' (k + 1) w1 := by
  obtain ⟨fs, h1, h2, h3, h4, h5⟩ := h
  have hl : Hs.popL (k + 1) A = Hs.popL k A ++ [e] := Hs.popL_more k A h5 e he
  have hs : w.heap.size + 1 ≤ w1.heap.size := by have := hg.size; simpa using this
  have hst : ∀ b, b < w.heap.size → v.ownBlock ≠ some b → w1.heap[b]? = w.heap[b]? := fun b hb hne => (hg.block b (by simp; omega) (fun e => hne e.symm)).trans (Below.heap_alloc w o b hb)
  obtain ⟨l1, l2⟩ := h1.lt
  have ht : Touch (v.ownBlock.toList) w w1 := ⟨hg.os, hg.tape, hg.output, by omega, fun b hb hf => hst b hb fun e => hf (by rw [e]; simp)⟩
  have hh : HeapA p (A.after (k + 1)) fs w1 := h1.apart ht fun g hg hm => by
    cases hv : v.ownBlock with
    | none => rw [hv] at hm; simp at hm
    | some b => rw [hv] at hm; simp at hm; exact h4.2 b hv (hm ▸ hg)
  refine ⟨fs, hh, ⟨hg.os.trans h2.os, hg.tape.trans h2.tape, hg.output.trans h2.output, by have := h2.size; omega, fun b hb hf => (hst b (by have := h2.size; omega) (fun e => by have := (h4.1.lt b e).1; omega)).trans (h2.block b hb hf)⟩, h3, ⟨?_, fun g hg2 hm => ?_⟩, ?_⟩
  · unfold listTo at hown ⊢
    rw [hl, List.map_append, List.map_append, List.length_append]
    exact hown
  · rcases hat with h6 | h6
    · exact h4.2 g (h6 ▸ hg2) hm
    · rw [h6] at hg2; injection hg2 with hg2
      have := l1 g hm; omega
  · rw [hl, List.length_append, h5]; rfl
def lenOfV : Value → Nat | .slice _ n _ => n | _ => 0
theorem listTo_len {k : Nat} {A : Hs} (h : (Hs.popL k A).length = k) : (listTo k A).length = k := by unfold listTo; rw [List.length_map, h]
set_option maxHeartbeats 2000000 in
theorem all_any {p : Nat} {A : Hs} {fs : List Nat} {w : World} (h : HeapA p A fs w) (hn : A.n ≤ 1000) :
    Calls Try.prog 27 #[.pointer (some ⟨p, 0, none⟩)] w fun r w' => ∃ v, r = .returned v ∧ AllPost w fs p A v w' := by
  have H0 : Hid (Popping w fs p A (.slice none 0 0) 0 w) := ⟨fs, h, Touch.refl _ _, fun _ hg => .inl hg, ⟨World.ownsRow_nil _ _ _ _, fun g hg => by cases hg⟩, rfl⟩
  obtain ⟨i0, hi, hz0, hz1, hz2⟩ := info_parts Try.infoInt
  have HN := Lib.hid hn
  clear h hn
  go_enter Try.func27, Try.ntmps27
  go_wp2
  go_loopw [3] (fun t wr => ∃ k va vc, t = .slice va k vc ∧ Hid (Popping w fs p A (.slice va k vc) k wr)) (fun t _ => A.n - lenOfV t)
  case atStart => exact ⟨0, none, 0, rfl, H0⟩
  case round =>
    obtain ⟨k, va, vc, rfl, HP⟩ := hrel
    obtain ⟨fsk, q1, q2, q3, q4, q5⟩ := HP.out
    have hkn := Hs.popL_len_n q5
    have hk1 : (k : Int) ≤ 1000 := by have := HN.out; omega
    have hk2 : ¬ (1000 : Int) < (k : Int) := by omega
    have HL5 := Lib.hid q5
    clear q1 q2 q3 q4 q5
    cases hb : (A.after k).best with
    | none =>
      have hV : (A.after k).popV = 0 := by unfold Hs.popV; rw [hb]
      have hE : (A.after k).popE = 6 := by unfold Hs.popE; rw [hb]
      have KP := HP.out.pop
      rw [hV, hE] at KP
      have KP := Lib.hid KP
      have HB := Lib.hid hb
      clear hb hV hE hkn
      go_wp2_with (first | (go_at_call 16; refine KP.out.mono ?_; rintro r w2 ⟨rfl, hp⟩; have HP2 := Lib.hid hp; clear hp))
      go_ret
      refine ⟨_, rfl, ?_⟩
      obtain ⟨fs2, g1, g2, g3, g4, g5⟩ := HP2.out
      have hA : A.after (k + 1) = A.after k := by rw [Hs.after_succ]; unfold Hs.popA; rw [HB.out]
      rw [hA] at g1
      exact Popping.done ⟨fs2, g1, g2, g3, g4, g5⟩ HB.out
    | some e =>
      have hV : (A.after k).popV = (e : Int) + 1 := by unfold Hs.popV; rw [hb]
      have hE : (A.after k).popE = 0 := by unfold Hs.popE; rw [hb]
      have KP := HP.out.pop
      rw [hV, hE] at KP
      have KP := Lib.hid KP
      have HB := Lib.hid hb
      have hlt : k < A.n := by
        have h5 := Hs.popL_more k A HL5.out e hb
        have h6 : (Hs.popL (k + 1) A).length = k + 1 := by rw [h5, List.length_append, HL5.out]; rfl
        have := Hs.popL_len_n h6; omega
      have HLT := Lib.hid hlt
      clear hb hV hE hkn hlt
      go_wp2_with (first | (go_at_call 16; refine KP.out.mono ?_; rintro r w2 ⟨rfl, hp⟩; have HP2 := Lib.hid hp; clear hp) | (at_builtin; refine wpList_append_own_at _ rfl _ _ 45 rfl w.heap.size 3 i0 (.int .i64 0) 1 8 Try.underlying45 hi hz0 hz1 hz2 rfl (by decide) (.slice va k vc) k ((listTo k A).map (Value.int .i64)) rfl ?c0 ⟨w2.heap.size, 0, none⟩ 1 1 [.int .i64 ((e : Int) + 1)] rfl rfl (one_new (by simp)) one_int ?c3 ?c4 ?c5 ?_))
      case c0 => obtain ⟨_, _, _, _, h4, h5⟩ := HP2.out; have h6 := World.ownsRow.alloc h4.1 (.cells #[.int .i64 ((e : Int) + 1)] 3); rw [listTo_len h5] at h6; exact h6
      case c3 => unfold maxLen; omega
      case c4 => omega
      case c5 => obtain ⟨_, _, h4, _⟩ := HP2.out; have := h4.size; simp; omega
      intro v' w3 hown hgrow _ hat
      obtain ⟨g, cap, rfl⟩ := Go.Joins.ownsRow_form hown (by omega)
      have H3 : Hid (Popping w fs p A (.slice (some ⟨g, 0, none⟩) (k + 1) cap) (k + 1) w3) := HP2.out.append HB.out (by rw [listTo_len HL5.out]; exact hown) hgrow (by simpa using hat)
      clear hown hgrow hat
      go_wp2
      go_roundw
      case rel => exact ⟨k + 1, _, _, rfl, H3⟩
      case measure => have := HLT.out; simp [lenOfV]; omega
end Go.Proofs.Ytfighepopmaimaa
