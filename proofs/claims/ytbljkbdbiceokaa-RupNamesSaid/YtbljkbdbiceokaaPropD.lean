/-
  What the propagation's memory holds; variable, holds, learn.
-/
import Derived.Test.YtbljkbdbiceokaaPropC
import Derived.BigQuiet
import Derived.BigRegion
namespace Go.Proofs.Ytbljkbdbiceokaa
open Go.RowKit Go.Lib
open Go.RowKit (Below)

abbrev nilS : Value := .slice none 0 0
/-- Where it lies; how many variables; how much is stored at most. -/
structure Mm where
  pb : Nat
  kb : Nat
  qb : Nat
  mb : Nat
  n : Nat
  T : Nat
def potC (l : List Cl) : Nat := (l.map fun e => e.rest.length).sum
/-- The cells of one clause that is watched. -/
def ClR (w : World) (B : Nat) (vs : List Value) (j : Nat) (e : Cl) : Prop :=
  ∃ a c, vs[j * 3]? = some (.int .i64 e.a) ∧ vs[j * 3 + 1]? = some (.int .i64 e.b) ∧ vs[j * 3 + 2]? = some (.slice a e.rest.length c) ∧ IntsR w a e.rest ∧ (∀ p, a = some p → p.block < B ∧ p.block < w.heap.size) ∧ e.rest.length ≤ c ∧ c ≤ maxLen
structure PR (B : Nat) (m : Mm) (f : Int → Value) (cv : Value) (N s r : Nat) (vs : List Value) (S : St) (w : World) : Prop where
  hp : B ≤ m.pb
  hk : B ≤ m.kb
  hq : B ≤ m.qb
  hm : B ≤ m.mb
  d1 : m.pb ≠ m.kb
  d2 : m.pb ≠ m.qb
  d3 : m.pb ≠ m.mb
  d4 : m.kb ≠ m.qb
  d5 : m.kb ≠ m.mb
  d6 : m.qb ≠ m.mb
  blk : Blk w m.pb 98 [.slice (some ⟨m.kb, 0, none⟩) (m.n + 1) (m.n + 1), .chan (some m.qb), .map (some m.mb), cv]
  kn : Blk w m.kb 3 (S.known.map (Value.int .i64))
  klen : S.known.length = m.n + 1
  chan : w.heap[m.qb]? = some (.chan (2 * m.n) (S.queue.map (Value.int .i64)).toArray false s r false)
  map : MapIs Try.prog w m.mb N nilS f
  pot : N + potC S.cls ≤ m.T
  wlen : ∀ l, (S.watch l).length ≤ N
  rows : ∀ l, w.ownsRow B 3 1 (f l) (S.watch l).length ((S.watch l).map (Value.int .i64))
  apart : ∀ l l' g, (f l).ownBlock = some g → (f l').ownBlock = some g → l = l'
  off : ∀ l g, (f l).ownBlock = some g → g ≠ m.pb ∧ g ≠ m.kb ∧ g ≠ m.qb ∧ g ≠ m.mb ∧ cv.ownBlock ≠ some g
  cls : w.ownsRow B 113 3 cv S.cls.length vs
  cvs : ∀ (j : Nat) e, S.cls[j]? = some e → ClR w B vs j e
  coff : ∀ g, cv.ownBlock = some g → g ≠ m.pb ∧ g ≠ m.kb ∧ g ≠ m.qb ∧ g ≠ m.mb

theorem rowStays {w w' : World} {B n size : Nat} {e : TypeId} {v : Value} {xs : List Value} (h : w.ownsRow B e size v n xs) (hb : ∀ g, v.ownBlock = some g → B ≤ g → w'.heap[g]? = w.heap[g]?) : w'.ownsRow B e size v n xs := by
  refine ⟨h.1, ?_⟩
  rcases h.2 with h2 | ⟨g, cap, cur, h1, h2, h3, h4⟩
  · exact .inl h2
  · exact .inr ⟨g, cap, cur, h1, h2, (hb g (by rw [h1]; rfl) h2).trans h3, h4⟩
theorem ClR.stays {w w' : World} {B : Nat} {vs : List Value} {j : Nat} {e : Cl} (h : ClR w B vs j e) (hs : w.heap.size ≤ w'.heap.size) (hb : ∀ g, g < B → g < w.heap.size → w'.heap[g]? = w.heap[g]?) : ClR w' B vs j e := by
  obtain ⟨a, c, h1, h2, h3, h4, h5, h6, h7⟩ := h
  exact ⟨a, c, h1, h2, h3, h4.stays hs fun p hp => hb _ (h5 p hp).1 (h5 p hp).2, fun p hp => ⟨(h5 p hp).1, Nat.lt_of_lt_of_le (h5 p hp).2 hs⟩, h6, h7⟩
section
variable {B : Nat} {m : Mm} {f : Int → Value} {cv : Value} {N s r : Nat} {vs : List Value} {S : St} {w w' : World}
/-- Blocks that the propagation doesn't have may change. -/
theorem PR.below (h : PR B m f cv N s r vs S w) (hb : Below w.heap.size w w') : PR B m f cv N s r vs S w' := by
  have hlt : ∀ k o, w.heap[k]? = some o → w'.heap[k]? = w.heap[k]? := fun k o hk => hb.block k (Array.getElem?_eq_some_iff.1 hk).1
  exact ⟨h.hp, h.hk, h.hq, h.hm, h.d1, h.d2, h.d3, h.d4, h.d5, h.d6, h.blk.of (hb.block _ h.blk.lt), h.kn.of (hb.block _ h.kn.lt), h.klen, (hlt _ _ h.chan).trans h.chan, h.map.of (hb.block _ h.map.lt), h.pot, h.wlen,
    fun l => rowStays (h.rows l) fun g hg _ => hb.block g ((h.rows l).lt g hg).2, h.apart, h.off, rowStays h.cls fun g hg _ => hb.block g (h.cls.lt g hg).2, fun j e he => (h.cvs j e he).stays hb.size fun g _ hg => hb.block g hg, h.coff⟩
theorem PR.known (h : PR B m f cv N s r vs S w) {j : Nat} (hj : j ≤ m.n) : w.cell? ⟨m.kb, j, none⟩ = some (.int .i64 (S.known.getD j 0)) := by
  refine h.kn.cell ?_
  rw [List.getElem?_map, List.getD_eq_getElem?_getD, List.getElem?_eq_getElem (by rw [h.klen]; omega)]; rfl
/-- One more literal is known. -/
theorem PR.learn (h : PR B m f cv N s r vs S w) {x : Int} (h0 : kat S.known x = 0) :
    PR B m f cv N (s + 1) r vs (learnS S x).1 ((w.setCell ⟨m.kb, x.natAbs, none⟩ (.int .i64 x)).setChan m.qb (2 * m.n) ((S.queue.map (Value.int .i64)).toArray.push (.int .i64 x)) false (s + 1) r false) := by
  have hS : (learnS S x).1 = { S with known := S.known.set x.natAbs x, queue := S.queue ++ [x] } := by unfold learnS; rw [if_pos h0]
  rw [hS]
  generalize hw1 : w.setCell ⟨m.kb, x.natAbs, none⟩ (.int .i64 x) = w1
  generalize hw2 : w1.setChan m.qb (2 * m.n) ((S.queue.map (Value.int .i64)).toArray.push (.int .i64 x)) false (s + 1) r false = w2
  have e1 : ∀ k, k ≠ m.kb → w1.heap[k]? = w.heap[k]? := fun k hk => by rw [← hw1]; exact setCell_block w _ _ hk
  have e2 : ∀ k, k ≠ m.qb → w2.heap[k]? = w1.heap[k]? := fun k hk => by rw [← hw2]; exact setChan_block w1 _ _ _ _ _ _ _ hk
  have e3 : ∀ k, k ≠ m.kb → k ≠ m.qb → w2.heap[k]? = w.heap[k]? := fun k h1 h2 => (e2 k h2).trans (e1 k h1)
  have hs1 : w1.heap.size = w.heap.size := by rw [← hw1]; simp
  have hs2 : w2.heap.size = w.heap.size := by rw [← hw2, Go.Conc.size_setChan, hs1]
  have hq : m.qb < w1.heap.size := by rw [hs1]; exact (Array.getElem?_eq_some_iff.1 h.chan).1
  refine ⟨h.hp, h.hk, h.hq, h.hm, h.d1, h.d2, h.d3, h.d4, h.d5, h.d6, h.blk.of (e3 _ h.d1 h.d2), ?_, by simp [h.klen], ?_, h.map.of (e3 _ h.d5.symm h.d6.symm), h.pot, h.wlen,
    fun l => rowStays (h.rows l) fun g hg _ => e3 g (h.off l g hg).2.1 (h.off l g hg).2.2.1, h.apart, h.off, rowStays h.cls fun g hg _ => e3 g (h.coff g hg).2.1 (h.coff g hg).2.2.1,
    fun j e he => (h.cvs j e he).stays (by omega) fun g hg _ => e3 g (by have := h.hk; omega) (by have := h.hq; omega), h.coff⟩
  · have h1 : Blk w1 m.kb 3 ((S.known.map (Value.int .i64)).set x.natAbs (.int .i64 x)) := by rw [← hw1]; exact h.kn.set _ _
    rw [← List.map_set] at h1
    exact h1.of (e2 _ h.d4)
  · rw [← hw2, Go.Conc.heap_setChan _ _ _ _ _ _ _ _ hq]
    simp
theorem PR.learnBelow (h : PR B m f cv N s r vs S w) (x : Int) (buf : Array Value) : Below B w ((w.setCell ⟨m.kb, x.natAbs, none⟩ (.int .i64 x)).setChan m.qb (2 * m.n) buf false (s + 1) r false) :=
  Go.Conc.below_setChan ((Below.refl B w).setCell h.hk _) h.hq _ _ _ _ _ _
end

theorem pvariable_is (x : Int) (j : Nat) (h : x.natAbs = j) (hb : -9223372036854775808 < x) (hb2 : x ≤ 9223372036854775807) (w : World) : Calls Try.prog 69 #[.int .i64 x] w fun e w' => e = .returned (.int .i64 (j : Int)) ∧ w' = w := by
  by_cases h0 : x < 0
  · obtain rfl : x = -(j : Int) := by omega
    have hb3 : (j : Int) ≤ 9223372036854775807 := by omega
    have hle : -(j : Int) < (j : Int) := by omega
    clear h h0
    go_enter Try.func69, Try.ntmps69
    go_wp2
    go_ret
    exact ⟨rfl, rfl⟩
  · obtain rfl : x = (j : Int) := by omega
    have hle : ¬ ((j : Int) < -(j : Int)) := by omega
    have hb3 : (0 : Int) ≤ (j : Int) := by omega
    clear h h0
    go_enter Try.func69, Try.ntmps69
    go_wp2
    go_ret
    exact ⟨rfl, rfl⟩

/-- Is a literal known to hold? -/
theorem pholds_is {B : Nat} {m : Mm} {f : Int → Value} {cv : Value} {N s r : Nat} {vs : List Value} {S : St} {w : World} (h : PR B m f cv N s r vs S w) {x : Int} {b : Bool} (hx : x.natAbs ≤ m.n) (hn : m.n ≤ 1000000) (hb : decide (kat S.known x = x) = b) :
    Calls Try.prog 70 #[.pointer (some ⟨m.pb, 0, none⟩), .int .i64 x] w fun e w' => e = .returned (.bool b) ∧ QuietTo w w' := by
  obtain ⟨j, hj⟩ : ∃ j, x.natAbs = j := ⟨_, rfl⟩
  have hkat : kat S.known x = S.known.getD j 0 := by unfold kat; rw [hj]
  rw [hkat] at hb
  have c0 : w.cell? ⟨m.pb, 0, none⟩ = some (.slice (some ⟨m.kb, 0, none⟩) (m.n + 1) (m.n + 1)) := h.blk.cell rfl
  have c1 := h.known (j := j) (by omega)
  have hb1 : -9223372036854775808 < x := by omega
  have hb2 : x ≤ 9223372036854775807 := by omega
  have hj1 : (0 : Int) ≤ (j : Int) := by omega
  have hj2 : (j : Int) < (m.n : Int) + 1 := by omega
  have KV := Lib.hid (fun W => pvariable_is x j hj hb1 hb2 W)
  generalize S.known.getD j 0 = k at *
  have hd : (k == x) = b := by rw [← hb]; rfl
  clear h hkat hb
  generalize m.pb = pb at *
  generalize m.kb = kb at *
  generalize m.n = n at *
  have hD := Lib.hid hd
  clear hj hx hd
  go_enter Try.func70, Try.ntmps70
  go_wp2
  go_quiet ((go_at_call 69; exact Calls.quiet_of_same (KV.out _)))
  go_wp2
  go_ret
  exact ⟨ret_bool hD.out, nq, rfl⟩
end Go.Proofs.Ytbljkbdbiceokaa
