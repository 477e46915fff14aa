/-
  What the base's memory holds, and behind each kind of write.
-/
import Derived.Test.YtbljkbdbiceokaaRupA
import Derived.Test.YtbljkbdbiceokaaPropF
namespace Go.Proofs.Ytbljkbdbiceokaa
open Go.RowKit Go.Lib
open Go.RowKit (Below)

def placeN (x : Int) : Nat := if x < 0 then 2 * x.natAbs + 1 else 2 * x.natAbs
theorem placeN_inj {x y : Int} (h : placeN x = placeN y) : x = y := by
  unfold placeN at h
  split at h <;> split at h <;> omega
theorem placeN_lt {x : Int} {n : Nat} (h : x.natAbs ≤ n) : placeN x < 2 * n + 2 := by
  unfold placeN; split <;> omega

/-- Where it lies; how many variables. -/
structure Mb where
  pb : Nat
  kb : Nat
  wb : Nat
  n : Nat
/-- The blocks that are its own, by number. -/
def own (m : Mb) (f : Nat → Value) (tv cv : Value) : Nat → Option Nat
  | 0 => some m.pb
  | 1 => some m.kb
  | 2 => some m.wb
  | 3 => tv.ownBlock
  | 4 => cv.ownBlock
  | p + 5 => (f p).ownBlock
def updV (f : Nat → Value) (p : Nat) (v : Value) : Nat → Value := fun q => if q = p then v else f q
theorem updV_same (f : Nat → Value) (p : Nat) (v : Value) : updV f p v p = v := by simp [updV]
theorem updV_other (f : Nat → Value) {p q : Nat} (v : Value) (h : q ≠ p) : updV f p v q = f q := by simp [updV, h]

/-- The cells of one clause that is watched. -/
def CbR (w : World) (B : Nat) (vs : List Value) (j : Nat) (e : Cb) : Prop :=
  ∃ a c, vs[j * 4]? = some (.int .i64 e.a) ∧ vs[j * 4 + 1]? = some (.int .i64 e.b) ∧ vs[j * 4 + 2]? = some (.slice a e.lits.length c) ∧ vs[j * 4 + 3]? = some (.int .i64 e.next) ∧ IntsR w a e.lits ∧ (∀ p, a = some p → p.block < B ∧ p.block < w.heap.size) ∧ e.lits.length ≤ c ∧ c ≤ maxLen
theorem CbR.stays {w w' : World} {B : Nat} {vs : List Value} {j : Nat} {e : Cb} (h : CbR w B vs j e) (hs : w.heap.size ≤ w'.heap.size) (hb : ∀ g, g < B → g < w.heap.size → w'.heap[g]? = w.heap[g]?) : CbR w' B vs j e := by
  obtain ⟨a, c, h1, h2, h3, h3', h4, h5, h6, h7⟩ := h
  exact ⟨a, c, h1, h2, h3, h3', h4.stays hs fun p hp => hb _ (h5 p hp).1 (h5 p hp).2, fun p hp => ⟨(h5 p hp).1, Nat.lt_of_lt_of_le (h5 p hp).2 hs⟩, h6, h7⟩

structure PB (B : Nat) (m : Mb) (f : Nat → Value) (tv cv : Value) (fl : Bool) (vs : List Value) (S : Sb) (w : World) : Prop where
  lt : ∀ i g, own m f tv cv i = some g → B ≤ g ∧ g < w.heap.size
  ap : ∀ i j g, own m f tv cv i = some g → own m f tv cv j = some g → i = j
  blk : Blk w m.pb 105 [.slice (some ⟨m.kb, 0, none⟩) (m.n + 1) (m.n + 1), tv, .int .i64 S.looked, .slice (some ⟨m.wb, 0, none⟩) (2 * m.n + 2) (2 * m.n + 2), cv, .bool fl]
  kn : Blk w m.kb 3 (S.known.map (Value.int .i64))
  klen : S.known.length = m.n + 1
  wt : Blk w m.wb 23 ((List.range (2 * m.n + 2)).map f)
  rows : ∀ x, w.ownsRow B 3 1 (f (placeN x)) (S.watch x).length ((S.watch x).map (Value.int .i64))
  tr : w.ownsRow B 3 1 tv S.trail.length (S.trail.map (Value.int .i64))
  cls : w.ownsRow B 110 4 cv S.cls.length vs
  cvs : ∀ (j : Nat) e, S.cls[j]? = some e → CbR w B vs j e

/-- The blocks that are its own stay apart when one of them is another one, or a new one. -/
theorem ap_upd {o o' : Nat → Option Nat} {N : Nat} (hlt : ∀ i g, o i = some g → g < N) (hap : ∀ i j g, o i = some g → o j = some g → i = j) (k : Nat) (hk : ∀ i, i ≠ k → o' i = o i) (hn : ∀ g, o' k = some g → o k = some g ∨ N ≤ g) :
    ∀ i j g, o' i = some g → o' j = some g → i = j := by
  intro i j g hi hj
  by_cases h1 : i = k <;> by_cases h2 : j = k
  · omega
  · subst h1
    rw [hk j h2] at hj
    rcases hn g hi with h | h
    · exact hap _ _ g h hj
    · have := hlt j g hj; omega
  · subst h2
    rw [hk i h1] at hi
    rcases hn g hj with h | h
    · exact hap _ _ g hi h
    · have := hlt i g hi; omega
  · rw [hk i h1] at hi; rw [hk j h2] at hj; exact hap _ _ g hi hj

section
variable {B : Nat} {m : Mb} {f : Nat → Value} {tv cv : Value} {fl : Bool} {vs : List Value} {S : Sb} {w w' : World}
theorem PB.size (h : PB B m f tv cv fl vs S w) : B ≤ w.heap.size := by have := h.lt 0 _ rfl; omega
theorem PB.ne (h : PB B m f tv cv fl vs S w) {i j a b : Nat} (hi : own m f tv cv i = some a) (hj : own m f tv cv j = some b) (hij : i ≠ j) : a ≠ b := fun e => hij (h.ap i j a hi (e ▸ hj))
/-- Blocks that the base doesn't have may change. -/
theorem PB.below (h : PB B m f tv cv fl vs S w) (hb : Below w.heap.size w w') : PB B m f tv cv fl vs S w' :=
  ⟨fun i g hi => ⟨(h.lt i g hi).1, Nat.lt_of_lt_of_le (h.lt i g hi).2 hb.size⟩, h.ap, h.blk.of (hb.block _ h.blk.lt), h.kn.of (hb.block _ h.kn.lt), h.klen, h.wt.of (hb.block _ h.wt.lt),
    fun x => rowStays (h.rows x) fun g hg _ => hb.block g ((h.rows x).lt g hg).2, rowStays h.tr fun g hg _ => hb.block g (h.tr.lt g hg).2, rowStays h.cls fun g hg _ => hb.block g (h.cls.lt g hg).2,
    fun j e he => (h.cvs j e he).stays hb.size fun g _ hg => hb.block g hg⟩
theorem PB.known (h : PB B m f tv cv fl vs S w) {j : Nat} (hj : j ≤ m.n) : w.cell? ⟨m.kb, j, none⟩ = some (.int .i64 (S.known.getD j 0)) := by
  refine h.kn.cell ?_
  rw [List.getElem?_map, List.getD_eq_getElem?_getD, List.getElem?_eq_getElem (by rw [h.klen]; omega)]; rfl
theorem PB.place (h : PB B m f tv cv fl vs S w) {p : Nat} (hp : p < 2 * m.n + 2) : w.cell? ⟨m.wb, p, none⟩ = some (f p) := by
  refine h.wt.cell ?_
  rw [List.getElem?_map, List.getElem?_range hp]; rfl

/-- Blocks that are not among its own. -/
def Foreign (m : Mb) (f : Nat → Value) (tv cv : Value) (b : Nat) : Prop := ∀ i, own m f tv cv i ≠ some b

/-- One of its blocks changes (number k), and the others stay; new ones may be there. -/
theorem PB.keep (h : PB B m f tv cv fl vs S w) {k : Nat} (hs : w.heap.size ≤ w'.heap.size) (hst : ∀ b, b < w.heap.size → own m f tv cv k ≠ some b → w'.heap[b]? = w.heap[b]?) :
    (∀ i b, i ≠ k → own m f tv cv i = some b → w'.heap[b]? = w.heap[b]?) ∧ (∀ j e, S.cls[j]? = some e → CbR w' B vs j e) ∧ (∀ b, b < w.heap.size → Foreign m f tv cv b → w'.heap[b]? = w.heap[b]?) ∧ ∀ i g, own m f tv cv i = some g → B ≤ g ∧ g < w'.heap.size :=
  ⟨fun i b hi hb => hst b (h.lt i b hb).2 fun e => hi (h.ap i k b hb e), fun j e he => (h.cvs j e he).stays hs fun g hg hlt => hst g hlt fun e => by have := (h.lt k g e).1; omega, fun b hb hf => hst b hb (hf k), fun i g hi => ⟨(h.lt i g hi).1, Nat.lt_of_lt_of_le (h.lt i g hi).2 hs⟩⟩

/-- A cell of the struct other than trail and clauses. -/
theorem PB.field (h : PB B m f tv cv fl vs S w) {i : Nat} {u : Value} {fl' : Bool} {S' : Sb} (h1 : S'.known = S.known) (h2 : S'.watch = S.watch) (h3 : S'.trail = S.trail) (h4 : S'.cls = S.cls)
    (hl : [Value.slice (some ⟨m.kb, 0, none⟩) (m.n + 1) (m.n + 1), tv, .int .i64 S.looked, .slice (some ⟨m.wb, 0, none⟩) (2 * m.n + 2) (2 * m.n + 2), cv, .bool fl].set i u = [.slice (some ⟨m.kb, 0, none⟩) (m.n + 1) (m.n + 1), tv, .int .i64 S'.looked, .slice (some ⟨m.wb, 0, none⟩) (2 * m.n + 2) (2 * m.n + 2), cv, .bool fl']) :
    PB B m f tv cv fl' vs S' (w.setCell ⟨m.pb, i, none⟩ u) ∧ Below B w (w.setCell ⟨m.pb, i, none⟩ u) := by
  have hst : ∀ b, b ≠ m.pb → (w.setCell ⟨m.pb, i, none⟩ u).heap[b]? = w.heap[b]? := fun b hb => setCell_block w _ _ hb
  obtain ⟨k1, k2, k3, k4⟩ := h.keep (w' := w.setCell ⟨m.pb, i, none⟩ u) (k := 0) (by simp) (fun b _ hb => hst b fun e => hb (by rw [e]; rfl))
  refine ⟨⟨k4, h.ap, ?_, by rw [h1]; exact h.kn.of (k1 1 _ (by omega) rfl), by rw [h1]; exact h.klen, h.wt.of (k1 2 _ (by omega) rfl), fun x => ?_, ?_, ?_, ?_⟩, (Below.refl B w).setCell (h.lt 0 _ rfl).1 _⟩
  · have := h.blk.set i u; rw [hl] at this; exact this
  · rw [h2]; exact rowStays (h.rows x) fun g hg _ => k1 (placeN x + 5) g (by omega) hg
  · rw [h3]; exact rowStays h.tr fun g hg _ => k1 3 g (by omega) hg
  · rw [h4]; exact rowStays h.cls fun g hg _ => k1 4 g (by omega) hg
  · rw [h4]; exact k2

/-- A cell of what is known. -/
theorem PB.knSet (h : PB B m f tv cv fl vs S w) (j : Nat) (x : Int) :
    PB B m f tv cv fl vs { S with known := S.known.set j x } (w.setCell ⟨m.kb, j, none⟩ (.int .i64 x)) ∧ Below B w (w.setCell ⟨m.kb, j, none⟩ (.int .i64 x)) := by
  have hst : ∀ b, b ≠ m.kb → (w.setCell ⟨m.kb, j, none⟩ (.int .i64 x)).heap[b]? = w.heap[b]? := fun b hb => setCell_block w _ _ hb
  obtain ⟨k1, k2, k3, k4⟩ := h.keep (w' := w.setCell ⟨m.kb, j, none⟩ (.int .i64 x)) (k := 1) (by simp) (fun b _ hb => hst b fun e => hb (by rw [e]; rfl))
  refine ⟨⟨k4, h.ap, h.blk.of (k1 0 _ (by omega) rfl), ?_, by simp [h.klen], h.wt.of (k1 2 _ (by omega) rfl), fun y => ?_, ?_, ?_, k2⟩, (Below.refl B w).setCell (h.lt 1 _ rfl).1 _⟩
  · have := h.kn.set j (.int .i64 x); rw [← List.map_set] at this; exact this
  · exact rowStays (h.rows y) fun g hg _ => k1 (placeN y + 5) g (by omega) hg
  · exact rowStays h.tr fun g hg _ => k1 3 g (by omega) hg
  · exact rowStays h.cls fun g hg _ => k1 4 g (by omega) hg

/-- The trail is another one: the world has changed in its block alone (w1), then the struct's cell is stored. -/
theorem PB.trSet (h : PB B m f tv cv fl vs S w) {w1 : World} {tv' : Value} {t : List Int} (hs : w.heap.size ≤ w1.heap.size) (hst : ∀ b, b < w.heap.size → tv.ownBlock ≠ some b → w1.heap[b]? = w.heap[b]?)
    (hown : w1.ownsRow B 3 1 tv' t.length (t.map (Value.int .i64))) (hat : ∀ g, tv'.ownBlock = some g → tv.ownBlock = some g ∨ w.heap.size ≤ g) :
    PB B m f tv' cv fl vs { S with trail := t } (w1.setCell ⟨m.pb, 1, none⟩ tv') ∧
      ∀ b, b < w.heap.size → b ≠ m.pb → tv.ownBlock ≠ some b → (w1.setCell ⟨m.pb, 1, none⟩ tv').heap[b]? = w.heap[b]? := by
  have e2 : ∀ b, b ≠ m.pb → (w1.setCell ⟨m.pb, 1, none⟩ tv').heap[b]? = w1.heap[b]? := fun b hb => setCell_block w1 _ _ hb
  have hpb := h.lt 0 _ rfl
  have hne : ∀ i a, own m f tv cv i = some a → i ≠ 3 → tv.ownBlock ≠ some a := fun i a hi h3 e => h3 (h.ap i 3 a hi e)
  have hst2 : ∀ i a, i ≠ 3 → i ≠ 0 → own m f tv cv i = some a → (w1.setCell ⟨m.pb, 1, none⟩ tv').heap[a]? = w.heap[a]? := fun i a h3 h0 hi =>
    (e2 a (fun e => h0 (h.ap i 0 a hi (by rw [e]; rfl)))).trans (hst a (h.lt i a hi).2 (hne i a hi h3))
  have hsz : w.heap.size ≤ (w1.setCell ⟨m.pb, 1, none⟩ tv').heap.size := by simp; exact hs
  have hown3 : ∀ g, tv'.ownBlock = some g → g ≠ m.pb := fun g hg e => by
    rcases hat g hg with h1 | h1
    · exact absurd (h.ap 3 0 g h1 (by rw [e]; rfl)) (by omega)
    · omega
  have ho : ∀ i, i ≠ 3 → own m f tv' cv i = own m f tv cv i := fun i hi => by
    match i, hi with
    | 0, _ => rfl
    | 1, _ => rfl
    | 2, _ => rfl
    | 4, _ => rfl
    | p + 5, _ => rfl
  refine ⟨⟨fun i g hi => ?_, ap_upd (fun i g hi => (h.lt i g hi).2) h.ap 3 ho hat, ?_, h.kn.of (hst2 1 _ (by omega) (by omega) rfl), h.klen, h.wt.of (hst2 2 _ (by omega) (by omega) rfl), fun x => ?_, ?_, ?_, fun j e he => ?_⟩, fun b hb h1 h2 => (e2 b h1).trans (hst b hb h2)⟩
  · by_cases h3 : i = 3
    · subst h3
      have := hown.lt g hi
      exact ⟨this.1, by simp; exact this.2⟩
    · rw [ho i h3] at hi
      exact ⟨(h.lt i g hi).1, Nat.lt_of_lt_of_le (h.lt i g hi).2 hsz⟩
  · have h1 : Blk w1 m.pb _ _ := h.blk.of (hst _ hpb.2 (hne 0 _ rfl (by omega)))
    exact h1.set 1 tv'
  · exact rowStays (h.rows x) fun g hg _ => hst2 (placeN x + 5) g (by omega) (by omega) hg
  · exact rowStays hown fun g hg _ => e2 g (hown3 g hg)
  · exact rowStays h.cls fun g hg _ => hst2 4 g (by omega) (by omega) hg
  · refine (h.cvs j e he).stays hsz fun g hg hlt => (e2 g (by omega)).trans (hst g hlt fun e => ?_)
    have := (h.lt 3 g e).1; omega

/-- One list of those that watch is another one: the world has changed in its block alone (w1), then the cell that holds it is stored. -/
theorem PB.rowSet (h : PB B m f tv cv fl vs S w) {w1 : World} {v' : Value} {x : Int} {l : List Int} (hx : x.natAbs ≤ m.n) (hs : w.heap.size ≤ w1.heap.size) (hst : ∀ b, b < w.heap.size → (f (placeN x)).ownBlock ≠ some b → w1.heap[b]? = w.heap[b]?)
    (hown : w1.ownsRow B 3 1 v' l.length (l.map (Value.int .i64))) (hat : ∀ g, v'.ownBlock = some g → (f (placeN x)).ownBlock = some g ∨ w.heap.size ≤ g) :
    PB B m (updV f (placeN x) v') tv cv fl vs { S with watch := upd S.watch x l } (w1.setCell ⟨m.wb, placeN x, none⟩ v') := by
  have e2 : ∀ b, b ≠ m.wb → (w1.setCell ⟨m.wb, placeN x, none⟩ v').heap[b]? = w1.heap[b]? := fun b hb => setCell_block w1 _ _ hb
  have hwb := h.lt 2 _ rfl
  have hne : ∀ i a, own m f tv cv i = some a → i ≠ placeN x + 5 → (f (placeN x)).ownBlock ≠ some a := fun i a hi h3 e => h3 (h.ap i (placeN x + 5) a hi e)
  have hst2 : ∀ i a, i ≠ placeN x + 5 → i ≠ 2 → own m f tv cv i = some a → (w1.setCell ⟨m.wb, placeN x, none⟩ v').heap[a]? = w.heap[a]? := fun i a h3 h0 hi =>
    (e2 a (fun e => h0 (h.ap i 2 a hi (by rw [e]; rfl)))).trans (hst a (h.lt i a hi).2 (hne i a hi h3))
  have hsz : w.heap.size ≤ (w1.setCell ⟨m.wb, placeN x, none⟩ v').heap.size := by simp; exact hs
  have hown3 : ∀ g, v'.ownBlock = some g → g ≠ m.wb := fun g hg e => by
    rcases hat g hg with h1 | h1
    · exact absurd (h.ap (placeN x + 5) 2 g h1 (by rw [e]; rfl)) (by omega)
    · omega
  have ho : ∀ i, i ≠ placeN x + 5 → own m (updV f (placeN x) v') tv cv i = own m f tv cv i := fun i hi => by
    match i, hi with
    | 0, _ => rfl
    | 1, _ => rfl
    | 2, _ => rfl
    | 3, _ => rfl
    | 4, _ => rfl
    | p + 5, hp => show (updV f (placeN x) v' p).ownBlock = _; rw [updV_other _ _ (by omega)]; rfl
  refine ⟨fun i g hi => ?_, ap_upd (fun i g hi => (h.lt i g hi).2) h.ap (placeN x + 5) ho (fun g hg => hat g ?_), h.blk.of (hst2 0 _ (by omega) (by omega) rfl), h.kn.of (hst2 1 _ (by omega) (by omega) rfl), h.klen, ?_, fun y => ?_, ?_, ?_, fun j e he => ?_⟩
  · by_cases h3 : i = placeN x + 5
    · subst h3
      have hi' : v'.ownBlock = some g := by have h9 : (updV f (placeN x) v' (placeN x)).ownBlock = some g := hi; rw [updV_same] at h9; exact h9
      have := hown.lt g hi'
      exact ⟨this.1, by simp; exact this.2⟩
    · rw [ho i h3] at hi
      exact ⟨(h.lt i g hi).1, Nat.lt_of_lt_of_le (h.lt i g hi).2 hsz⟩
  · have h9 : (updV f (placeN x) v' (placeN x)).ownBlock = some g := hg; rw [updV_same] at h9; exact h9
  · have h1 : Blk w1 m.wb _ _ := h.wt.of (hst _ hwb.2 (hne 2 _ rfl (by omega)))
    have h2 := h1.set (placeN x) v'
    have h3 : ((List.range (2 * m.n + 2)).map f).set (placeN x) v' = (List.range (2 * m.n + 2)).map (updV f (placeN x) v') := by
      refine List.ext_getElem? fun i => ?_
      rw [List.getElem?_set, List.getElem?_map, List.getElem?_map, List.length_map, List.length_range]
      have hlt := placeN_lt hx
      by_cases hi : placeN x = i
      · subst hi
        rw [if_pos rfl, if_pos hlt, List.getElem?_range hlt]; simp [updV_same]
      · rw [if_neg hi]
        by_cases hi2 : i < 2 * m.n + 2
        · rw [List.getElem?_range hi2]; simp [updV_other _ _ (Ne.symm hi)]
        · rw [List.getElem?_eq_none (by simp; omega)]; rfl
    rw [h3] at h2
    exact h2
  · dsimp only
    by_cases hy : y = x
    · subst hy
      rw [updV_same, upd_same]
      exact rowStays hown fun g hg _ => e2 g (hown3 g hg)
    · rw [updV_other _ _ (fun e => hy (placeN_inj e)), upd_other _ _ hy]
      exact rowStays (h.rows y) fun g hg _ => hst2 (placeN y + 5) g (fun e => hy (placeN_inj (by omega))) (by omega) hg
  · exact rowStays h.tr fun g hg _ => hst2 3 g (by omega) (by omega) hg
  · exact rowStays h.cls fun g hg _ => hst2 4 g (by omega) (by omega) hg
  · refine (h.cvs j e he).stays hsz fun g hg hlt => (e2 g (by omega)).trans (hst g hlt fun e => ?_)
    have := (h.lt (placeN x + 5) g e).1; omega

/-- One more clause: the world has changed in the block of the clauses alone (w1), then the struct's cell is stored. -/
theorem PB.clsPut (h : PB B m f tv cv fl vs S w) {w1 : World} {cv' : Value} {e : Cb} {a : Option Addr} {c : Nat} (hs : w.heap.size ≤ w1.heap.size) (hst : ∀ b, b < w.heap.size → cv.ownBlock ≠ some b → w1.heap[b]? = w.heap[b]?)
    (hown : w1.ownsRow B 110 4 cv' (S.cls.length + 1) (vs ++ [.int .i64 e.a, .int .i64 e.b, .slice a e.lits.length c, .int .i64 e.next])) (hat : ∀ g, cv'.ownBlock = some g → cv.ownBlock = some g ∨ w.heap.size ≤ g)
    (hi : IntsR w a e.lits) (hp : ∀ p, a = some p → p.block < B ∧ p.block < w.heap.size) (hc : e.lits.length ≤ c) (hc2 : c ≤ maxLen) :
    PB B m f tv cv' fl (vs ++ [.int .i64 e.a, .int .i64 e.b, .slice a e.lits.length c, .int .i64 e.next]) { S with cls := S.cls ++ [e] } (w1.setCell ⟨m.pb, 4, none⟩ cv') := by
  have e2 : ∀ b, b ≠ m.pb → (w1.setCell ⟨m.pb, 4, none⟩ cv').heap[b]? = w1.heap[b]? := fun b hb => setCell_block w1 _ _ hb
  have hpb := h.lt 0 _ rfl
  have hne : ∀ i a, own m f tv cv i = some a → i ≠ 4 → cv.ownBlock ≠ some a := fun i a hi h3 e => h3 (h.ap i 4 a hi e)
  have hst2 : ∀ i a, i ≠ 4 → i ≠ 0 → own m f tv cv i = some a → (w1.setCell ⟨m.pb, 4, none⟩ cv').heap[a]? = w.heap[a]? := fun i a h3 h0 hi =>
    (e2 a (fun e => h0 (h.ap i 0 a hi (by rw [e]; rfl)))).trans (hst a (h.lt i a hi).2 (hne i a hi h3))
  have hsz : w.heap.size ≤ (w1.setCell ⟨m.pb, 4, none⟩ cv').heap.size := by simp; exact hs
  have hown3 : ∀ g, cv'.ownBlock = some g → g ≠ m.pb := fun g hg e => by
    rcases hat g hg with h1 | h1
    · exact absurd (h.ap 4 0 g h1 (by rw [e]; rfl)) (by omega)
    · omega
  have ho : ∀ i, i ≠ 4 → own m f tv cv' i = own m f tv cv i := fun i hi => by
    match i, hi with
    | 0, _ => rfl
    | 1, _ => rfl
    | 2, _ => rfl
    | 3, _ => rfl
    | p + 5, _ => rfl
  have hlow : ∀ g, g < B → g < w.heap.size → (w1.setCell ⟨m.pb, 4, none⟩ cv').heap[g]? = w.heap[g]? := fun g hg hlt => (e2 g (by omega)).trans (hst g hlt fun e => by have := (h.lt 4 g e).1; omega)
  refine ⟨fun i g hi => ?_, ap_upd (fun i g hi => (h.lt i g hi).2) h.ap 4 ho hat, ?_, h.kn.of (hst2 1 _ (by omega) (by omega) rfl), h.klen, h.wt.of (hst2 2 _ (by omega) (by omega) rfl), fun x => ?_, ?_, ?_, fun j e' he => ?_⟩
  · by_cases h3 : i = 4
    · subst h3
      have := hown.lt g hi
      exact ⟨this.1, by simp; exact this.2⟩
    · rw [ho i h3] at hi
      exact ⟨(h.lt i g hi).1, Nat.lt_of_lt_of_le (h.lt i g hi).2 hsz⟩
  · have h1 : Blk w1 m.pb _ _ := h.blk.of (hst _ hpb.2 (hne 0 _ rfl (by omega)))
    exact h1.set 4 cv'
  · exact rowStays (h.rows x) fun g hg _ => hst2 (placeN x + 5) g (by omega) (by omega) hg
  · exact rowStays h.tr fun g hg _ => hst2 3 g (by omega) (by omega) hg
  · dsimp only
    rw [List.length_append]
    exact rowStays hown fun g hg _ => e2 g (hown3 g hg)
  · have hvl : vs.length = S.cls.length * 4 := h.cls.1
    rcases (getElem?_snoc _ _ _ _).1 he with h1 | ⟨h1, h2⟩
    · have hlt : j < S.cls.length := (List.getElem?_eq_some_iff.1 h1).1
      obtain ⟨a', c', h2, h3, h4, h4', h5, h6, h7, h8⟩ := (h.cvs j e' h1).stays hsz hlow
      exact ⟨a', c', by rw [List.getElem?_append_left (by omega)]; exact h2, by rw [List.getElem?_append_left (by omega)]; exact h3, by rw [List.getElem?_append_left (by omega)]; exact h4, by rw [List.getElem?_append_left (by omega)]; exact h4', h5, h6, h7, h8⟩
    · subst h1; subst h2
      have hk : ∀ k, (vs ++ [Value.int .i64 e'.a, .int .i64 e'.b, .slice a e'.lits.length c, .int .i64 e'.next])[S.cls.length * 4 + k]? = [Value.int .i64 e'.a, .int .i64 e'.b, .slice a e'.lits.length c, .int .i64 e'.next][k]? := fun k => by
        rw [List.getElem?_append_right (by omega), hvl, Nat.add_sub_cancel_left]
      exact ⟨a, c, hk 0, hk 1, hk 2, hk 3, hi.stays hsz fun p hp' => hlow _ (hp p hp').1 (hp p hp').2, fun p hp' => ⟨(hp p hp').1, Nat.lt_of_lt_of_le (hp p hp').2 hsz⟩, hc, hc2⟩

/-- The cells of one clause are others. -/
theorem PB.clsSet {g L cap : Nat} (h : PB B m f tv (.slice (some ⟨g, 0, none⟩) L cap) fl vs S w) {n k : Nat} {e e' : Cb} (hn : S.cls[n]? = some e) (hk : k < 4) (u : Value) (hcl : CbR w B (vs.set (n * 4 + k) u) n e') :
    PB B m f tv (.slice (some ⟨g, 0, none⟩) L cap) fl (vs.set (n * 4 + k) u) { S with cls := S.cls.set n e' } (w.setCell ⟨g, n * 4 + k, none⟩ u) ∧ Below B w (w.setCell ⟨g, n * 4 + k, none⟩ u) := by
  have hst : ∀ b, b ≠ g → (w.setCell ⟨g, n * 4 + k, none⟩ u).heap[b]? = w.heap[b]? := fun b hb => setCell_block w _ _ hb
  have hg1 := (h.lt 4 g rfl).1
  have hL : L = S.cls.length := by
    rcases h.cls.2 with ⟨h2, _⟩ | ⟨g', cap', cur, h2, _⟩
    · cases h2
    · cases h2; rfl
  subst hL
  obtain ⟨k1, k2, k3, k4⟩ := h.keep (w' := w.setCell ⟨g, n * 4 + k, none⟩ u) (k := 4) (by simp) (fun b _ hb => hst b fun e => hb (by rw [e]; rfl))
  refine ⟨⟨k4, h.ap, h.blk.of (k1 0 _ (by omega) rfl), h.kn.of (k1 1 _ (by omega) rfl), h.klen, h.wt.of (k1 2 _ (by omega) rfl), fun y => rowStays (h.rows y) fun g hg _ => k1 (placeN y + 5) g (by omega) hg, rowStays h.tr fun g hg _ => k1 3 g (by omega) hg, ?_, fun j e1 he => ?_⟩, (Below.refl B w).setCell hg1 _⟩
  · dsimp only; rw [List.length_set]; exact ownsRow_set h.cls
  · rcases getElem?_setB _ _ _ _ _ he with ⟨rfl, rfl⟩ | ⟨hj, h1⟩
    · exact hcl.stays (by simp) fun b hb _ => hst b (by omega)
    · obtain ⟨a', c', h2, h3, h4, h4', h5, h6, h7, h8⟩ := (h.cvs j e1 h1).stays (w' := w.setCell ⟨g, n * 4 + k, none⟩ u) (by simp) fun b hb _ => hst b (by omega)
      exact ⟨a', c', by rw [List.getElem?_set_ne (by omega)]; exact h2, by rw [List.getElem?_set_ne (by omega)]; exact h3, by rw [List.getElem?_set_ne (by omega)]; exact h4, by rw [List.getElem?_set_ne (by omega)]; exact h4', h5, h6, h7, h8⟩
end
end Go.Proofs.Ytbljkbdbiceokaa
