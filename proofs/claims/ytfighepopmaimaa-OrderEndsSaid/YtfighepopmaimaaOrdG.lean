/-
  The heap as activities and what is in it: Bump, Pop, Push, Has, Len.
-/
import Derived.Test.YtfighepopmaimaaOrdF
namespace Go.Proofs.Ytfighepopmaimaa
open Go.RowKit Go.Lib
open Go.RowKit (Below)

/-- The activity of each variable (from 0), and whether it is in the heap. -/
structure Hs where
  n : Nat
  act : Nat → Int
  inn : Nat → Bool
namespace Hs
def new (n : Nat) : Hs := ⟨n, fun _ => 0, fun _ => true⟩
def okV (A : Hs) (v : Int) : Bool := decide (1 ≤ v) && decide (v ≤ (A.n : Int))
def best (A : Hs) : Option Nat := bestN A.act A.inn A.n
def bumpE (A : Hs) (v b : Int) : Int := if A.okV v = false ∨ b < 0 ∨ 1099511627776 < b ∨ 1152921504606846976 < A.act (v - 1).toNat + b then 3 else 0
def bumpA (A : Hs) (v b : Int) : Hs := if A.bumpE v b = 0 then { A with act := upN A.act (v - 1).toNat (A.act (v - 1).toNat + b) } else A
def popV (A : Hs) : Int := match A.best with | none => 0 | some e => (e : Int) + 1
def popE (A : Hs) : Int := match A.best with | none => 6 | some _ => 0
def popA (A : Hs) : Hs := match A.best with | none => A | some e => { A with inn := upN A.inn e false }
def pushE (A : Hs) (v : Int) : Int := if A.okV v then 0 else 3
def pushA (A : Hs) (v : Int) : Hs := if A.okV v then { A with inn := upN A.inn (v - 1).toNat true } else A
def hasB (A : Hs) (v : Int) : Bool := A.okV v && A.inn (v - 1).toNat
def cnt (A : Hs) (k : Nat) : Nat := ((List.range k).filter A.inn).length
def lenN (A : Hs) : Int := (A.cnt A.n : Int)
/-- Activities are from 0 to 2^60. -/
def Fit (A : Hs) : Prop := A.n ≤ 1048576 ∧ ∀ e, e < A.n → 0 ≤ A.act e ∧ A.act e ≤ 1152921504606846976
theorem Fit.new {n : Nat} (hn : n ≤ 1048576) : (Hs.new n).Fit := ⟨hn, fun _ _ => ⟨Int.le_refl 0, by show (0 : Int) ≤ _; decide⟩⟩
theorem bumpE_bad {A : Hs} {v b : Int} (h : A.okV v = false ∨ b < 0 ∨ 1099511627776 < b ∨ 1152921504606846976 < A.act (v - 1).toNat + b) : A.bumpE v b = 3 ∧ A.bumpA v b = A := by
  have h1 : A.bumpE v b = 3 := by unfold bumpE; rw [if_pos h]
  exact ⟨h1, by unfold bumpA; rw [h1, if_neg (by decide)]⟩
theorem bumpE_good {A : Hs} {e : Nat} {b : Int} (he : e < A.n) (h0 : 0 ≤ b) (h1 : b ≤ 1099511627776) (h2 : A.act e + b ≤ 1152921504606846976) : A.bumpE ((e : Int) + 1) b = 0 ∧ A.bumpA ((e : Int) + 1) b = { A with act := upN A.act e (A.act e + b) } := by
  have hz : ((e : Int) + 1 - 1).toNat = e := by omega
  have hv : A.okV ((e : Int) + 1) = true := by unfold okV; simp; omega
  have h3 : A.bumpE ((e : Int) + 1) b = 0 := by unfold bumpE; rw [if_neg (by rw [hv, hz]; simp; omega)]
  exact ⟨h3, by unfold bumpA; rw [h3, if_pos rfl, hz]⟩
theorem Fit.bump {A : Hs} (h : A.Fit) (v b : Int) : (A.bumpA v b).Fit := by
  unfold bumpA
  by_cases h1 : A.bumpE v b = 0
  · rw [if_pos h1]
    unfold bumpE at h1
    split at h1
    · cases h1
    · rename_i hc
      have c1 : A.okV v = true := by cases hv : A.okV v with
        | true => rfl
        | false => exact absurd (.inl hv) hc
      refine ⟨h.1, fun e he => ?_⟩
      have := h.2 e he
      show 0 ≤ upN A.act _ _ e ∧ upN A.act _ _ e ≤ _
      unfold upN
      split
      · rename_i hq
        subst hq
        constructor <;> omega
      · exact this
  · rw [if_neg h1]; exact h
theorem Fit.pop {A : Hs} (h : A.Fit) : A.popA.Fit := by unfold popA; cases A.best <;> exact h
theorem Fit.push {A : Hs} (h : A.Fit) (v : Int) : (A.pushA v).Fit := by unfold pushA; split <;> exact h
theorem cnt_succ (A : Hs) (k : Nat) : A.cnt (k + 1) = A.cnt k + (if A.inn k then 1 else 0) := by
  unfold cnt; rw [List.range_succ, List.filter_append, List.length_append]
  cases h : A.inn k <;> simp [h]
end Hs
theorem filter_len {n : Nat} {l : List Nat} {f : Nat → Bool} (hn : l.Nodup) (hl : ∀ e, e ∈ l → e < n) (hf : ∀ e, e < n → f e = decide (e ∈ l)) : ((List.range n).filter f).length = l.length := by
  have h1 : ((List.range n).filter f).Nodup := List.Pairwise.filter _ List.nodup_range
  refine Nat.le_antisymm (h1.length_le_of_subset fun e he => ?_) (hn.length_le_of_subset fun e he => ?_)
  · obtain ⟨h2, h3⟩ := List.mem_filter.1 he
    rw [hf e (List.mem_range.1 h2)] at h3; simpa using h3
  · exact List.mem_filter.2 ⟨List.mem_range.2 (hl e he), by rw [hf e (hl e he)]; simpa using he⟩

/-- A heap in memory: its block, what it is, its blocks. -/
def HeapA (p : Nat) (A : Hs) (fs : List Nat) (w : World) : Prop :=
  ∃ m Q, m.gb = p ∧ fs = m.foot ∧ Qu 64 m Q w ∧ Q.n = A.n ∧ Q.act = A.act ∧ (∀ e, e < A.n → A.inn e = decide (e ∈ Q.tree)) ∧ A.Fit
/-- It is another one; only its blocks have changed, and its new blocks are its own. -/
def Step (p : Nat) (A : Hs) (fs : List Nat) (w w' : World) : Prop := ∃ fs', HeapA p A fs' w' ∧ Touch fs w w' ∧ ∀ g, g ∈ fs' → g ∈ fs ∨ w.heap.size ≤ g
theorem HeapA.lt {p : Nat} {A : Hs} {fs : List Nat} {w : World} (h : HeapA p A fs w) : (∀ g, g ∈ fs → g < w.heap.size) ∧ p ∈ fs := by
  obtain ⟨m, Q, rfl, rfl, hq, _⟩ := h
  exact ⟨hq.q.foot, by simp [Mq.foot]⟩
theorem HeapA.apart {p : Nat} {A : Hs} {fs fs' : List Nat} {w w' : World} (h : HeapA p A fs w) (ht : Touch fs' w w') (hf : ∀ g, g ∈ fs → g ∉ fs') : HeapA p A fs w' := by
  obtain ⟨m, Q, rfl, rfl, hq, h1⟩ := h
  exact ⟨m, Q, rfl, rfl, hq.apart ht hf, h1⟩
theorem HeapA.below {p : Nat} {A : Hs} {fs : List Nat} {w w' : World} (h : HeapA p A fs w) (hb : Below w.heap.size w w') : HeapA p A fs w' := by
  obtain ⟨m, Q, rfl, rfl, hq, h1⟩ := h
  exact ⟨m, Q, rfl, rfl, hq.below hb, h1⟩
theorem HeapA.fit {p : Nat} {A : Hs} {fs : List Nat} {w : World} (h : HeapA p A fs w) : A.Fit := by obtain ⟨m, Q, _, _, _, _, _, _, hf⟩ := h; exact hf
theorem Step.refl {p : Nat} {A : Hs} {fs : List Nat} {w : World} (h : HeapA p A fs w) : Step p A fs w w := ⟨fs, h, Touch.refl _ _, fun _ hg => .inl hg⟩
theorem Step.of_below {p : Nat} {A : Hs} {fs : List Nat} {w w' : World} (h : HeapA p A fs w) (hb : Below w.heap.size w w') : Step p A fs w w' := ⟨fs, h.below hb, Touch.of_below hb _, fun _ hg => .inl hg⟩
theorem Step.first {p : Nat} {A : Hs} {fs : List Nat} {w w1 w' : World} (hb : Below w.heap.size w w1) (h : Step p A fs w1 w') : Step p A fs w w' := by
  obtain ⟨fs', h1, h2, h3⟩ := h
  exact ⟨fs', h1, (Touch.of_below hb _).trans h2, fun g hg => (h3 g hg).imp id fun h => Nat.le_trans hb.size h⟩
theorem Step.then_ {p : Nat} {A : Hs} {fs : List Nat} {w w1 w' : World} (h : Step p A fs w w1) (hb : Below w1.heap.size w1 w') : Step p A fs w w' := by
  obtain ⟨fs', h1, h2, h3⟩ := h
  exact ⟨fs', h1.below hb, h2.trans (Touch.of_below hb _), h3⟩
theorem Step.of_after {m : Mq} {A' : Hs} {mem : Nat → Prop} {act : Nat → Int} {n : Nat} {w w' : World} (h : After 64 m n act mem w w') (hn : n = A'.n) (ha : act = A'.act) (hm : ∀ e, e < A'.n → (A'.inn e = true ↔ mem e)) (hf : A'.Fit) : Step m.gb A' m.foot w w' := by
  obtain ⟨m', Q', h1, h2, h3, h4, h5, h6, h7⟩ := h
  refine ⟨m'.foot, ⟨m', Q', h5, rfl, h1, h2.trans hn, h3.trans ha, fun e he => ?_, hf⟩, h6, h7⟩
  rw [Bool.eq_iff_iff, hm e he, decide_eq_true_iff, h4 e]

theorem known_is {m : Mq} {Q : Qs} {w : World} (h : Qu 64 m Q w) {v : Int} {b : Bool} (hb : (decide (1 ≤ v) && decide (v ≤ (Q.n : Int))) = b) : Calls Try.prog 31 #[.pointer (some ⟨m.gb, 0, none⟩), .int .i64 v] w fun r w' => r = .returned (.bool b) ∧ w = w' := by
  have c1 := h.q.c1
  generalize Q.n = n at *
  clear h
  by_cases h1 : 1 ≤ v
  · have hd : decide (v ≤ (n : Int)) = b := by rw [← hb]; simp [h1]
    have HD := Lib.hid hd
    clear hb hd
    go_enter Try.func31, Try.ntmps31
    go_wp2
    go_ret
    exact ⟨ret_bool HD.out, rfl⟩
  · have hd : false = b := by rw [← hb]; simp [h1]
    have HD := Lib.hid hd
    clear hb hd
    go_enter Try.func31, Try.ntmps31
    go_wp2
    go_ret
    exact ⟨ret_bool HD.out, rfl⟩

section
variable {p : Nat} {A : Hs} {fs : List Nat} {w : World}
theorem okV_bad {v : Int} (h : A.okV v = false) : ¬ (1 ≤ v ∧ v ≤ (A.n : Int)) := by
  unfold Hs.okV at h
  intro ⟨h1, h2⟩
  simp [h1, h2] at h
theorem okV_good {v : Int} (h : A.okV v = true) : ∃ e : Nat, e < A.n ∧ v = (e : Int) + 1 := by
  unfold Hs.okV at h
  simp at h
  exact ⟨(v - 1).toNat, by omega, by omega⟩
theorem okV_nat {e : Nat} (h : e < A.n) : A.okV ((e : Int) + 1) = true := by unfold Hs.okV; simp; omega
theorem natSub (e : Nat) : ((e : Int) + 1 - 1).toNat = e := by omega

theorem len_any (h : HeapA p A fs w) : Calls Try.prog 22 #[.pointer (some ⟨p, 0, none⟩)] w fun r w' => r = .returned (.int .i64 A.lenN) ∧ w = w' := by
  obtain ⟨m, Q, rfl, rfl, hq, hn, ha, hi, hf⟩ := h
  have hl : (Q.tree.length : Int) = A.lenN := by
    unfold Hs.lenN Hs.cnt
    rw [filter_len hq.ok.nodup (fun e he => by obtain ⟨i, hi, rfl⟩ := Qs.at_of_mem he; rw [← hn]; exact hq.ok.lt i hi) hi]
  have K := Lib.hid (size_is hq.q)
  have HL := Lib.hid hl
  clear hl hq hn ha hi hf
  go_enter Try.func22, Try.ntmps22
  go_wp2_with (go_at_call 34; refine K.out.mono ?_; rintro r w' ⟨rfl, rfl⟩)
  go_ret
  exact ⟨ret_int HL.out, rfl⟩
theorem has_any (h : HeapA p A fs w) (v : Int) : Calls Try.prog 20 #[.pointer (some ⟨p, 0, none⟩), .int .i64 v] w fun r w' => r = .returned (.bool (A.hasB v)) ∧ w = w' := by
  obtain ⟨m, Q, rfl, rfl, hq, hn, ha, hi, hf⟩ := h
  cases hv : A.okV v with
  | false =>
    have K := Lib.hid (known_is hq (v := v) (b := false) (by rw [hn]; exact hv))
    have HL : Hid (false = A.hasB v) := by unfold Hid Hs.hasB; rw [hv]; rfl
    clear hv hq hn ha hi hf
    go_enter Try.func20, Try.ntmps20
    go_wp2_with (go_at_call 31; refine K.out.mono ?_; rintro r w' ⟨rfl, rfl⟩)
    go_ret
    exact ⟨ret_bool HL.out, rfl⟩
  | true =>
    have K := Lib.hid (known_is hq (v := v) (b := true) (by rw [hn]; exact hv))
    obtain ⟨e, he, rfl⟩ := okV_good hv
    have hfew := hf.1
    have hin : A.inn e = A.hasB ((e : Int) + 1) := by unfold Hs.hasB; rw [hv, natSub]; rfl
    have hpl : (Q.pl e != -1) = A.inn e := by
      rw [hi e he, Bool.eq_iff_iff, decide_eq_true_iff, hq.ok.mem (by omega)]; simp
    have K2 := Lib.hid (has_is hq.q (e := e) (by omega) hpl)
    have HL := Lib.hid hin
    have he2 : (e : Int) ≤ 1048576 := by omega
    have hz : (e : Int) + 1 - 1 = (e : Int) := by omega
    have hz2 : IntKind.i64.wrap ((e : Int) + 1 - 1) = (e : Int) := by rw [hz]; exact IntWalk.i64_in _ (by omega)
    clear hv hq hn ha hi hf hin hpl
    go_enter Try.func20, Try.ntmps20
    go_wp2_with (first | (go_at_call 31; refine K.out.mono ?_; rintro r w' ⟨rfl, rfl⟩) | (go_at_call 37; refine K2.out.mono ?_; rintro r w' ⟨rfl, rfl⟩))
    go_ret
    exact ⟨ret_bool HL.out, rfl⟩
theorem push_any (h : HeapA p A fs w) (v : Int) : Calls Try.prog 18 #[.pointer (some ⟨p, 0, none⟩), .int .i64 v] w fun r w' => r = .returned (.int .i64 (A.pushE v)) ∧ Step p (A.pushA v) fs w w' := by
  have h0 := h
  obtain ⟨m, Q, rfl, rfl, hq, hn, ha, hi, hf⟩ := h
  cases hv : A.okV v with
  | false =>
    have K := Lib.hid (known_is hq (v := v) (b := false) (by rw [hn]; exact hv))
    have hE : A.pushE v = 3 := by unfold Hs.pushE; rw [hv]; rfl
    have hA : A.pushA v = A := by unfold Hs.pushA; rw [hv]; rfl
    rw [hE, hA]
    have HST := Lib.hid (Step.refl h0)
    clear hv hq hn ha hi hf hE hA h0
    go_enter Try.func18, Try.ntmps18
    go_wp2_with (go_at_call 31; refine K.out.mono ?_; rintro r w' ⟨rfl, rfl⟩)
    go_ret
    exact ⟨rfl, HST.out⟩
  | true =>
    have K := Lib.hid (known_is hq (v := v) (b := true) (by rw [hn]; exact hv))
    obtain ⟨e, he, rfl⟩ := okV_good hv
    have hfew := hf.1
    have hE : A.pushE ((e : Int) + 1) = 0 := by unfold Hs.pushE; rw [hv]; rfl
    have hA : A.pushA ((e : Int) + 1) = { A with inn := upN A.inn e true } := by unfold Hs.pushA; rw [hv, if_pos rfl, natSub]
    rw [hE, hA]
    have K2 : Calls Try.prog 36 #[.pointer (some ⟨m.gb, 0, none⟩), .int .i64 (e : Int)] w fun r w' => r = .returned (.tuple #[]) ∧ Step m.gb { A with inn := upN A.inn e true } m.foot w w' := by
      by_cases hm : e ∈ Q.tree
      · refine (push_in hq (e := e) (by omega) hm).mono ?_
        rintro r w' ⟨hr, rfl⟩
        refine ⟨hr, m.foot, ⟨m, Q, rfl, rfl, hq, hn, ha, fun f hf2 => ?_, hf⟩, Touch.refl _ _, fun _ hg => .inl hg⟩
        show upN A.inn e true f = _
        unfold upN
        split
        · rename_i hfe; rw [hfe]; simp [hm]
        · exact hi f hf2
      · refine (push_out hq.q hq.ok hq.heap (e := e) (by omega) hm).mono ?_
        rintro r w' ⟨hr, haf⟩
        refine ⟨hr, Step.of_after haf hn ha (fun f hf2 => ?_) hf⟩
        show upN A.inn e true f = true ↔ _
        unfold upN
        split
        · rename_i hfe; simp [hfe]
        · rename_i hfe; rw [hi f hf2]; simp [hfe]
    have K2 := Lib.hid K2
    have he2 : (e : Int) ≤ 1048576 := by omega
    clear hv hq hn ha hi hf hE hA h0
    go_enter Try.func18, Try.ntmps18
    go_wp2_with (first | (go_at_call 31; refine K.out.mono ?_; rintro r w' ⟨rfl, rfl⟩) | (go_at_call 36; refine K2.out.mono ?_; rintro r w' ⟨rfl, hst⟩))
    have HST := Lib.hid hst
    clear hst
    go_wp2
    go_ret
    exact ⟨rfl, HST.out⟩
theorem pop_all (h : HeapA p A fs w) : Calls Try.prog 16 #[.pointer (some ⟨p, 0, none⟩)] w fun r w' => r = .returned (.tuple #[.int .i64 A.popV, .int .i64 A.popE]) ∧ Step p A.popA fs w w' := by
  have h0 := h
  obtain ⟨m, Q, rfl, rfl, hq, hn, ha, hi, hf⟩ := h
  have K := Lib.hid (size_is hq.q)
  have hbq : A.best = bestN Q.act (fun f => decide (f ∈ Q.tree)) Q.n := by
    unfold Hs.best; rw [hn, ha]; exact bestN_congr (fun _ _ => rfl) (fun f hf => hi f hf)
  cases hb : A.best with
  | none =>
    have hV : A.popV = 0 := by unfold Hs.popV; rw [hb]
    have hE : A.popE = 6 := by unfold Hs.popE; rw [hb]
    have hA : A.popA = A := by unfold Hs.popA; rw [hb]
    rw [hV, hE, hA]
    have hl : Q.tree.length = 0 := by
      cases hl : Q.tree.length with
      | zero => rfl
      | succ k =>
        have := hq.heap.root hq.ok (by omega)
        rw [← hbq, hb] at this; cases this
    rw [hl] at K
    have HST := Lib.hid (Step.refl h0)
    clear hb hq hn ha hi hf hV hE hA h0 hbq hl
    go_enter Try.func16, Try.ntmps16
    go_wp2_with (go_at_call 34; refine K.out.mono ?_; rintro r w' ⟨rfl, rfl⟩)
    go_ret2
    exact ⟨rfl, HST.out⟩
  | some e =>
    have hV : A.popV = (e : Int) + 1 := by unfold Hs.popV; rw [hb]
    have hE : A.popE = 0 := by unfold Hs.popE; rw [hb]
    have hA : A.popA = { A with inn := upN A.inn e false } := by unfold Hs.popA; rw [hb]
    rw [hV, hE, hA]
    have he : e < A.n := (bestN_some hb).1
    have hfew := hf.1
    obtain ⟨L, hl⟩ : ∃ L, Q.tree.length = L + 1 := by
      have h1 : e ∈ Q.tree := by have := (bestN_some (hbq.symm.trans hb)).2; simpa using this
      have := List.length_pos_of_mem h1
      exact ⟨Q.tree.length - 1, by omega⟩
    rw [hl] at K
    have K2 : Calls Try.prog 35 #[.pointer (some ⟨m.gb, 0, none⟩)] w fun r w' => r = .returned (.int .i64 (e : Int)) ∧ Step m.gb { A with inn := upN A.inn e false } m.foot w w' := by
      refine (pop_any hq (hbq.symm.trans hb)).mono ?_
      rintro r w' ⟨hr, haf⟩
      refine ⟨hr, Step.of_after haf hn ha (fun f hf2 => ?_) hf⟩
      show upN A.inn e false f = true ↔ _
      unfold upN
      split
      · rename_i hfe; simp [hfe]
      · rename_i hfe; rw [hi f hf2]; simp [hfe]
    have K2 := Lib.hid K2
    have he2 : (e : Int) ≤ 1048576 := by omega
    have hL0 : (((L + 1 : Nat) : Int) == 0) = false := by simp; omega
    clear hb hq hn ha hi hf hV hE hA h0 hbq hl
    go_enter Try.func16, Try.ntmps16
    go_wp2_with (first | (go_at_call 34; refine K.out.mono ?_; rintro r w' ⟨rfl, rfl⟩) | (go_at_call 35; refine K2.out.mono ?_; rintro r w' ⟨rfl, hst⟩))
    have HST := Lib.hid hst
    clear hst
    go_wp2
    go_ret2
    exact ⟨rfl, HST.out⟩
set_option maxHeartbeats 1000000 in
theorem bump_any (h : HeapA p A fs w) (v b : Int) : Calls Try.prog 14 #[.pointer (some ⟨p, 0, none⟩), .int .i64 v, .int .i64 b] w fun r w' => r = .returned (.int .i64 (A.bumpE v b)) ∧ Step p (A.bumpA v b) fs w w' := by
  have h0 := h
  obtain ⟨m, Q, rfl, rfl, hq, hn, ha, hi, hf⟩ := h
  cases hv : A.okV v with
  | false =>
    have K := Lib.hid (known_is hq (v := v) (b := false) (by rw [hn]; exact hv))
    obtain ⟨hE, hA⟩ := A.bumpE_bad (v := v) (b := b) (.inl hv)
    rw [hE, hA]
    have HST := Lib.hid (Step.refl h0)
    clear hv hq hn ha hi hf hE hA h0
    go_enter Try.func14, Try.ntmps14
    go_wp2_with (go_at_call 31; refine K.out.mono ?_; rintro r w' ⟨rfl, rfl⟩)
    go_ret
    exact ⟨rfl, HST.out⟩
  | true =>
    have K := Lib.hid (known_is hq (v := v) (b := true) (by rw [hn]; exact hv))
    by_cases hb1 : b < 0
    · obtain ⟨hE, hA⟩ := A.bumpE_bad (v := v) (b := b) (.inr (.inl hb1))
      rw [hE, hA]
      have HST := Lib.hid (Step.refl h0)
      clear hv hq hn ha hi hf hE hA h0
      go_enter Try.func14, Try.ntmps14
      go_wp2_with (go_at_call 31; refine K.out.mono ?_; rintro r w' ⟨rfl, rfl⟩)
      go_ret
      exact ⟨rfl, HST.out⟩
    by_cases hb2 : 1099511627776 < b
    · obtain ⟨hE, hA⟩ := A.bumpE_bad (v := v) (b := b) (.inr (.inr (.inl hb2)))
      rw [hE, hA]
      have HST := Lib.hid (Step.refl h0)
      clear hv hq hn ha hi hf hE hA h0
      go_enter Try.func14, Try.ntmps14
      go_wp2_with (go_at_call 31; refine K.out.mono ?_; rintro r w' ⟨rfl, rfl⟩)
      go_ret
      exact ⟨rfl, HST.out⟩
    obtain ⟨e, he, rfl⟩ := okV_good hv
    have hfew := hf.1
    obtain ⟨ha0, ha1⟩ := hf.2 e he
    have hb0 : 0 ≤ b := by omega
    have hb3 : b ≤ 1099511627776 := by omega
    have he2 : (e : Int) ≤ 1048576 := by omega
    have K2 := key_is hq.q (e := e) (by omega)
    rw [ha] at K2
    have K2 := Lib.hid K2
    by_cases hb4 : 1152921504606846976 < A.act e + b
    · obtain ⟨hE, hA⟩ := A.bumpE_bad (v := (e : Int) + 1) (b := b) (.inr (.inr (.inr (by rw [natSub]; exact hb4))))
      rw [hE, hA]
      have HST := Lib.hid (fun w' (hb : Below w.heap.size w w') => Step.of_below h0 hb)
      have t1 : decide (1152921504606846976 - b < A.act e) = true := by simp; omega
      generalize A.act e = x at *
      clear hv hq hn ha hi hf hE hA h0 hb4 he
      go_enter Try.func14, Try.ntmps14
      go_wp2_with (first | (go_at_call 31; refine K.out.mono ?_; rintro r w' ⟨rfl, rfl⟩) | (go_at_call 32; refine K2.out.mono ?_; rintro r w' ⟨rfl, hb9⟩))
      go_ret
      exact ⟨rfl, HST.out _ (hb9.alloc hb9.size _)⟩
    · obtain ⟨hE, hA⟩ := A.bumpE_good he hb0 hb3 (by omega)
      rw [hE, hA]
      have HF := hf.bump ((e : Int) + 1) b
      rw [hA] at HF
      have HF := Lib.hid HF
      have K3 : ∀ W, Below w.heap.size w W → Calls Try.prog 33 #[.pointer (some ⟨m.gb, 0, none⟩), .int .i64 (e : Int), .agg #[.int .i64 (A.act e + b), .int .i64 ((e : Int) + 1)]] W fun r w' => r = .returned (.tuple #[]) ∧ Step m.gb { A with act := upN A.act e (A.act e + b) } m.foot w w' := by
        intro W hW
        refine (advance_any (hq.below hW) (e := e) (by omega) (x := A.act e + b) (by rw [ha]; omega)).mono ?_
        rintro r w' ⟨hr, haf⟩
        refine ⟨hr, Step.first hW (Step.of_after haf hn (by rw [ha]) (fun f hf2 => ?_) HF.out)⟩
        show A.inn f = true ↔ _
        rw [hi f hf2]; simp
      have K3 := Lib.hid K3
      have t1 : decide (1152921504606846976 - b < A.act e) = false := by simp; omega
      have x1 : A.act e + b ≤ 1152921504606846976 := by omega
      clear hv hq hn ha hi hf hE hA h0 hb4 he HF
      generalize A.act e = x at *
      go_enter Try.func14, Try.ntmps14
      go_wp2_with (first | (go_at_call 31; refine K.out.mono ?_; rintro r w' ⟨rfl, rfl⟩) | (go_at_call 32; refine K2.out.mono ?_; rintro r w' ⟨rfl, hb9⟩))
      have hbk : Blk (w'.alloc (.cells #[.int .i64 (x + b), .int .i64 ((e : Int) + 1)] 57)) w'.heap.size 57 [.int .i64 (x + b), .int .i64 ((e : Int) + 1)] := Blk.new _ _ _
      have hbl : Below w.heap.size w (w'.alloc (.cells #[.int .i64 (x + b), .int .i64 ((e : Int) + 1)] 57)) := hb9.alloc hb9.size _
      generalize w'.alloc (.cells #[.int .i64 (x + b), .int .i64 ((e : Int) + 1)] 57) = w2 at *
      have c0 := hbk.cell (i := 0) rfl
      have c1 := hbk.cell (i := 1) rfl
      have HBL := Lib.hid hbl
      clear hbk hbl hb9
      go_still_tail 6, (by kernel_rfl)
      generalize hw3 : World.mk w2.heap w2.tape _ _ _ = w3
      have HW : Hid (Below w.heap.size w w3) := by rw [← hw3]; exact HBL.out.trans ⟨rfl, rfl, rfl, Nat.le_refl _, fun _ _ => rfl⟩
      clear hw3 c0 c1
      go_wp2_with (first | (go_at_call 33; refine (K3.out _ HW.out).mono ?_; rintro r w4 ⟨rfl, hst⟩))
      have HST := Lib.hid hst
      clear hst
      go_wp2
      go_ret
      exact ⟨rfl, HST.out⟩
end
end Go.Proofs.Ytfighepopmaimaa
