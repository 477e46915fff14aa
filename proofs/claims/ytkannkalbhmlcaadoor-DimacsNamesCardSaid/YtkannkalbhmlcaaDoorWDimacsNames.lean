/-
  DimacsNames' walk.
-/
import Derived.Test.YtkannkalbhmlcaaDoorDimT
import Derived.Lib.ConvBytes
namespace Go.Proofs.YtkannkalbhmlcaaDoor
open Go.RowKit Go.Lib
open Go.RowKit (Below)

def x1 : ByteArray := ⟨#[99, 32, 120, 10, 112, 32, 99, 110, 102, 32, 50, 32, 49, 10, 99, 10, 49, 10, 50, 32, 48]⟩
theorem x1_parse : parseB (W8 x1) = ⟨2, [[1, 2]], 0, 0⟩ := by decide +kernel
def x2 : ByteArray := ⟨#[112, 32, 99, 110, 102, 32, 48, 32, 48]⟩
theorem x2_parse : parseB (W8 x2) = ⟨0, [], 0, 0⟩ := by decide +kernel
theorem eq12 : eqFm 2 [[1, 2]] 2 [[1, 2]] = true := eqFm_refl _ _
theorem one_rows (w : World) {b g : Nat} (hb : b = w.heap.size) (hg : g = w.heap.size + 1) : RowsR .i64 ((w.alloc (.cells #[.int .i64 1, .int .i64 2] 3)).alloc (.cells #[.slice (some ⟨b, 0, none⟩) 2 2] 34)) (some ⟨g, 0, none⟩) [[1, 2]] := by
  subst hb hg
  refine .inr ⟨_, 0, rfl, by simp, fun j hj => ?_⟩
  have k1 : KI .i64 (w.alloc (.cells #[.int .i64 1, .int .i64 2] 3)) (some ⟨w.heap.size, 0, none⟩) [1, 2] := KI.of (IntsR.lit _ _ _ _ rfl rfl)
  rw [Nat.zero_add, World.cell?_alloc_at _ _ _ _ (by simp)]
  match j, hj with
  | 0, _ => exact ⟨_, 2, rfl, k1.alloc _⟩
  | n + 1, hj => exact absurd hj (by simp)

def txs : List ByteArray := [⟨#[]⟩, ⟨#[99]⟩, ⟨#[112, 32, 99, 110, 102, 32, 50]⟩, ⟨#[112, 32, 99, 110, 102, 32, 50, 32, 45, 49]⟩, ⟨#[112, 32, 99, 110, 102, 32, 49, 48, 52, 56, 53, 55, 55, 32, 48]⟩, ⟨#[112, 32, 99, 110, 102, 32, 48, 32, 49, 48, 52, 56, 53, 55, 55]⟩, ⟨#[112, 32, 99, 110, 102, 32, 50, 32, 49, 10, 49, 32, 51, 32, 48]⟩, ⟨#[112, 32, 99, 110, 102, 32, 50, 32, 49, 10, 49, 32, 120, 32, 48]⟩, ⟨#[112, 32, 99, 110, 102, 32, 50, 32, 49, 10, 49, 32, 48, 50, 32, 48]⟩, ⟨#[112, 32, 99, 110, 102, 32, 50, 32, 49, 10, 49, 32, 48, 10, 50, 32, 48]⟩, ⟨#[112, 32, 99, 110, 102, 32, 50, 32, 49, 10, 49, 32, 50]⟩, ⟨#[112, 32, 99, 110, 102, 32, 50, 32, 49, 10, 49, 32, 50, 10]⟩, ⟨#[112, 32, 99, 110, 102, 32, 50, 32, 49, 10, 49, 32, 45, 48]⟩, ⟨#[112, 32, 99, 110, 102, 32, 50, 32, 49, 10, 43, 49, 32, 48]⟩, ⟨#[10, 112, 32, 99, 110, 102, 32, 50, 32, 48, 10, 48]⟩, ⟨#[112, 32, 99, 110, 102, 32, 50, 32, 49, 10, 45, 57, 57, 57, 57, 57, 57, 57, 57, 57, 57, 57, 57, 57, 57, 57, 57, 57, 57, 57, 57, 57, 57, 57, 32, 48]⟩, ⟨#[112, 32, 99, 110, 102, 32, 50, 32, 57, 57, 57, 57, 57, 57, 57, 57, 57, 57, 57, 57, 57, 57, 57, 57, 57, 57, 57, 57, 57, 57, 57]⟩, ⟨#[112, 32, 99, 110, 102, 32, 57, 57, 57, 57, 57, 57, 57, 57, 57, 57, 57, 57, 57, 57, 57, 57, 57, 57, 57, 57, 57, 57, 57, 32, 120]⟩]
def lns : List Int := [1, 2, 1, 1, 1, 1, 2, 2, 2, 3, 3, 3, 2, 2, 3, 2, 1, 1]
def ers : List Int := [4, 4, 4, 4, 3, 5, 3, 4, 4, 4, 4, 4, 4, 4, 4, 3, 5, 4]
def txK (k : Nat) : ByteArray := txs.getD k ⟨#[]⟩
theorem tx_parse : ∀ k : Fin 18, parseB (W8 (txK k.val)) = ⟨0, [], lns.getD k.val 0, ers.getD k.val 0⟩ ∧ (txK k.val).size ≤ 100 := by decide +kernel
def txA : Array Value := #[.string ⟨#[]⟩, .string ⟨#[99]⟩, .string ⟨#[112, 32, 99, 110, 102, 32, 50]⟩, .string ⟨#[112, 32, 99, 110, 102, 32, 50, 32, 45, 49]⟩, .string ⟨#[112, 32, 99, 110, 102, 32, 49, 48, 52, 56, 53, 55, 55, 32, 48]⟩, .string ⟨#[112, 32, 99, 110, 102, 32, 48, 32, 49, 48, 52, 56, 53, 55, 55]⟩, .string ⟨#[112, 32, 99, 110, 102, 32, 50, 32, 49, 10, 49, 32, 51, 32, 48]⟩, .string ⟨#[112, 32, 99, 110, 102, 32, 50, 32, 49, 10, 49, 32, 120, 32, 48]⟩, .string ⟨#[112, 32, 99, 110, 102, 32, 50, 32, 49, 10, 49, 32, 48, 50, 32, 48]⟩, .string ⟨#[112, 32, 99, 110, 102, 32, 50, 32, 49, 10, 49, 32, 48, 10, 50, 32, 48]⟩, .string ⟨#[112, 32, 99, 110, 102, 32, 50, 32, 49, 10, 49, 32, 50]⟩, .string ⟨#[112, 32, 99, 110, 102, 32, 50, 32, 49, 10, 49, 32, 50, 10]⟩, .string ⟨#[112, 32, 99, 110, 102, 32, 50, 32, 49, 10, 49, 32, 45, 48]⟩, .string ⟨#[112, 32, 99, 110, 102, 32, 50, 32, 49, 10, 43, 49, 32, 48]⟩, .string ⟨#[10, 112, 32, 99, 110, 102, 32, 50, 32, 48, 10, 48]⟩, .string ⟨#[112, 32, 99, 110, 102, 32, 50, 32, 49, 10, 45, 57, 57, 57, 57, 57, 57, 57, 57, 57, 57, 57, 57, 57, 57, 57, 57, 57, 57, 57, 57, 57, 57, 57, 32, 48]⟩, .string ⟨#[112, 32, 99, 110, 102, 32, 50, 32, 57, 57, 57, 57, 57, 57, 57, 57, 57, 57, 57, 57, 57, 57, 57, 57, 57, 57, 57, 57, 57, 57, 57]⟩, .string ⟨#[112, 32, 99, 110, 102, 32, 57, 57, 57, 57, 57, 57, 57, 57, 57, 57, 57, 57, 57, 57, 57, 57, 57, 57, 57, 57, 57, 57, 57, 32, 120]⟩]
def lnA : Array Value := #[.int .i64 1, .int .i64 2, .int .i64 1, .int .i64 1, .int .i64 1, .int .i64 1, .int .i64 2, .int .i64 2, .int .i64 2, .int .i64 3, .int .i64 3, .int .i64 3, .int .i64 2, .int .i64 2, .int .i64 3, .int .i64 2, .int .i64 1, .int .i64 1]
def erA : Array Value := #[.int .i64 4, .int .i64 4, .int .i64 4, .int .i64 4, .int .i64 3, .int .i64 5, .int .i64 3, .int .i64 4, .int .i64 4, .int .i64 4, .int .i64 4, .int .i64 4, .int .i64 4, .int .i64 4, .int .i64 4, .int .i64 3, .int .i64 5, .int .i64 4]
theorem txA_at (k : Nat) (h : k < 18) : txA[k]? = some (.string (txK k)) := by
  match k, h with
  | 0, _ => rfl
  | 1, _ => rfl
  | 2, _ => rfl
  | 3, _ => rfl
  | 4, _ => rfl
  | 5, _ => rfl
  | 6, _ => rfl
  | 7, _ => rfl
  | 8, _ => rfl
  | 9, _ => rfl
  | 10, _ => rfl
  | 11, _ => rfl
  | 12, _ => rfl
  | 13, _ => rfl
  | 14, _ => rfl
  | 15, _ => rfl
  | 16, _ => rfl
  | 17, _ => rfl
  | n + 18, h => omega
theorem lnA_at (k : Nat) (h : k < 18) : lnA[k]? = some (.int .i64 (lns.getD k 0)) := by
  match k, h with
  | 0, _ => rfl
  | 1, _ => rfl
  | 2, _ => rfl
  | 3, _ => rfl
  | 4, _ => rfl
  | 5, _ => rfl
  | 6, _ => rfl
  | 7, _ => rfl
  | 8, _ => rfl
  | 9, _ => rfl
  | 10, _ => rfl
  | 11, _ => rfl
  | 12, _ => rfl
  | 13, _ => rfl
  | 14, _ => rfl
  | 15, _ => rfl
  | 16, _ => rfl
  | 17, _ => rfl
  | n + 18, h => omega
theorem erA_at (k : Nat) (h : k < 18) : erA[k]? = some (.int .i64 (ers.getD k 0)) := by
  match k, h with
  | 0, _ => rfl
  | 1, _ => rfl
  | 2, _ => rfl
  | 3, _ => rfl
  | 4, _ => rfl
  | 5, _ => rfl
  | 6, _ => rfl
  | 7, _ => rfl
  | 8, _ => rfl
  | 9, _ => rfl
  | 10, _ => rfl
  | 11, _ => rfl
  | 12, _ => rfl
  | 13, _ => rfl
  | 14, _ => rfl
  | 15, _ => rfl
  | 16, _ => rfl
  | 17, _ => rfl
  | n + 18, h => omega

def fillX (x : Int) (N k : Nat) : List Int := List.replicate k x ++ List.replicate (N - k) 0
theorem fillX_length (x : Int) (N k : Nat) (h : k ≤ N) : (fillX x N k).length = N := by unfold fillX; simp; omega
theorem fillX_zero (x : Int) (N : Nat) : fillX x N 0 = List.replicate N 0 := by unfold fillX; simp
theorem fillX_set (x : Int) (N k : Nat) (h : k < N) : (fillX x N k).set k x = fillX x N (k + 1) := by
  unfold fillX
  rw [List.set_append_right _ _ (by simp)]
  obtain ⟨m, hm⟩ : ∃ m, N - k = m + 1 := ⟨N - k - 1, by omega⟩
  rw [hm, show N - (k + 1) = m by omega, List.length_replicate, Nat.sub_self, List.replicate_succ, List.set_cons_zero, List.replicate_succ', List.append_assoc]
  rfl
theorem fillX_all (x : Int) (N : Nat) : fillX x N N = List.replicate N x := by unfold fillX; simp
theorem sp_fold : ∀ (n : Nat) (p : Bool), (List.replicate n (32 : UInt8)).foldl feed ⟨[], [], [], p⟩ = ⟨[], [], [], p || decide (0 < n)⟩
  | 0, p => by simp
  | n + 1, p => by
    rw [List.replicate_succ, List.foldl_cons]
    have e : feed ⟨[], [], [], p⟩ 32 = ⟨[], [], [], true⟩ := by simp [feed, endW]
    rw [e, sp_fold n true]; simp
theorem sp_parse (n : Nat) (h0 : 0 < n) (h : n ≤ 65536) : parseB (List.replicate n (32 : UInt8)) = ⟨0, [], 2, 4⟩ := by
  have hl : linesW (List.replicate n (32 : UInt8)) = [[]] := by
    unfold linesW ls0
    rw [sp_fold]
    simp [fin, endW, h0]
  unfold parseB parseC
  rw [if_neg (by rw [List.length_replicate]; omega), hl]
  rfl
theorem sp_long (n : Nat) (h : 65536 < n) : parseB (List.replicate n (32 : UInt8)) = ⟨0, [], 0, 5⟩ := by
  unfold parseB parseC
  rw [if_pos (by rw [List.length_replicate]; exact h)]
theorem Tryd.info3'' : (Tryd.prog.info? 3).map (fun i => (i.zero, i.size, i.bytes)) = some (some (.int .i64 0), 1, 8) := by kernel_rfl
/-- The bytes of a row of blanks, as a string. -/
theorem sp_string {w : World} {g off n cap : Nat} (hc : ∀ j, j < n → w.cell? ⟨g, off + j, none⟩ = some (.int .u8 32)) :
    (convert 37 9 (.slice (some ⟨g, off, none⟩) n cap)).run Tryd.prog w = Result.ok (.string (str (List.replicate n 32))) w := by
  have h := run_convert_bytes_back (P := Tryd.prog) w 37 9 5 ⟨g, off, none⟩ cap (List.replicate n 32) Tryd.underlying37 Tryd.underlying5 Tryd.underlying9 (fun j hj => by
    rw [Addr.add_lit, hc j (by simpa using hj), List.getElem_replicate]; rfl)
  rw [List.length_replicate] at h
  exact h

/-- Three clauses of the greatest length: their text is too long. -/
def big : List Int := List.replicate 4096 524288
theorem big_length : big.length = 4096 := by unfold big; rw [List.length_replicate]
theorem litsT_rep (x : Int) : ∀ n : Nat, (litsT (List.replicate n x)).length = n * ((itoa x).length + 1)
  | 0 => by simp [litsT]
  | n + 1 => by
    have h := litsT_rep x n
    unfold litsT at h ⊢
    rw [List.replicate_succ, List.flatMap_cons, List.length_append, h, List.length_append, Nat.succ_mul]
    simp only [List.length_cons, List.length_nil]; omega
theorem itoa_big : (itoa 524288).length = 6 := by
  unfold itoa
  rw [if_neg (by omega), decDigits_length]
  exact nDigits_unique 5 _ (by decide) (by decide)
theorem many_ok : FmOk 1048576 (List.replicate 3 big) := by
  refine ⟨by omega, by rw [List.length_replicate]; omega, fun z hz => ?_⟩
  rw [(List.mem_replicate.1 hz).2]
  refine ⟨by rw [big_length]; omega, fun x hx => ?_⟩
  rw [(List.mem_replicate.1 hx).2]; omega
theorem many_long : 65536 < (formT 1048576 (List.replicate 3 big)).length := by
  have h : (litsT big).length = 28672 := by unfold big; rw [litsT_rep, itoa_big]
  unfold formT
  have e : List.replicate 3 big = [big, big, big] := rfl
  rw [e]
  simp only [List.flatMap_cons, List.flatMap_nil, List.length_append, clauseT_eq]
  omega
theorem many_is {l : Nat} (hl : 3 = l) (a : Option Addr) (c : Nat) (w : World) (h : RowsR .i64 w a (List.replicate 3 big)) (he : Env w) :
    Calls Tryd.prog 13 #[.agg #[.int .i64 1048576, .slice a l c]] w fun e w' => e = .returned (.tuple #[.string ⟨#[]⟩, .int .i64 5]) ∧ Below w.heap.size w w' := by
  subst hl
  have h1 := fmt_long (fmOk_check many_ok) many_long
  have h3 : (List.replicate 3 big).length = 3 := List.length_replicate
  have := format_any 1048576 a c (List.replicate 3 big) w (by rw [h3]; unfold maxLen; omega) (fmOk_all many_ok) (fmOk_i64 many_ok) h he
  rw [h3] at this
  refine this.mono fun e w' ⟨h2, hb⟩ => ⟨?_, hb⟩
  rw [h2, h1.1, h1.2]
structure ManyAt (w wr : World) (M C k : Nat) (v : Value) : Prop where
  f : Two wr M (.int .i64 1048576) v
  row : wr.ownsRow (M + 1) 34 1 v k (List.replicate k (.slice (some ⟨C, 0, none⟩) 4096 4096))
  c : IntsR wr (some ⟨C, 0, none⟩) big
  below : Below w.heap.size w wr
  lt : C < M ∧ w.heap.size ≤ M
theorem ManyAt.next {w wr w1 : World} {M C k : Nat} {v v' : Value} {o : Obj} (h : ManyAt w wr M C k v) (hown : w1.ownsRow (M + 1) 34 1 v' (k + 1) (List.replicate k (.slice (some ⟨C, 0, none⟩) 4096 4096) ++ [.slice (some ⟨C, 0, none⟩) 4096 4096])) (hg : (wr.alloc o).grownBy w1 v.ownBlock) :
    ManyAt w (w1.setCell ⟨M, 1, none⟩ v') M C (k + 1) v' ∧ Two w1 M (.int .i64 1048576) v := by
  obtain ⟨h1, h2⟩ := h.lt
  have hne : ∀ j, v.ownBlock = some j → M + 1 ≤ j ∧ j < wr.heap.size := fun j e => World.ownsRow.lt h.row j e
  have hM := h.f.lt
  have hT : Two w1 M (.int .i64 1048576) v := (h.f.alloc o).grown hg (fun e => by have := hne M e; omega)
  have hs : wr.heap.size ≤ w1.heap.size := by have := hg.size; simp at this; omega
  refine ⟨⟨hT.set1 v', ?_, ?_, ?_, h.lt⟩, hT⟩
  · rw [List.replicate_succ']
    exact ownsRow_stays hown fun i hi _ => Below.heap_setCell w1 ⟨M, 1, none⟩ v' i (by simp; omega)
  · refine h.c.stays (by simpa using hs) fun p hp => ?_
    cases hp
    rw [Below.heap_setCell w1 ⟨M, 1, none⟩ v' C (by simp; omega)]
    rw [hg.block C (by simp; omega) (fun e => by have := hne C e.symm; omega)]
    exact Below.heap_alloc _ _ _ (by omega)
  · refine Below.setCell ?_ (p := ⟨M, 1, none⟩) h2 v'
    exact (h.below.alloc h.below.size o).grown hg (by simp; have := h.below.size; omega) (fun j e => by have := hne j e; omega)
theorem ManyAt.rows {w wr : World} {M C : Nat} {v : Value} (h : ManyAt w wr M C 3 v) : ∃ a c, v = .slice a 3 c ∧ RowsR .i64 wr a (List.replicate 3 big) := by
  obtain ⟨g, cap, rfl⟩ := Go.Joins.ownsRow_form h.row (by omega)
  refine ⟨_, _, rfl, .inr ⟨g, 0, rfl, (World.ownsRow.lt h.row g rfl).2, fun j hj => ?_⟩⟩
  rw [List.length_replicate] at hj
  have e : (List.replicate 3 big).getD j [] = big := by rw [List.getD_eq_getElem?_getD, List.getElem?_replicate, if_pos hj]; rfl
  rw [e, big_length]
  refine ⟨some ⟨C, 0, none⟩, 4096, ?_, KI.of h.c⟩
  rw [Nat.zero_add, World.ownsRow.cellAt h.row j hj, List.getElem?_replicate, if_pos hj]

set_option maxRecDepth 100000 in
set_option maxHeartbeats 8000000 in
theorem dimacsNames_walk (w : World) (he : Env w) :
    Calls Tryd.prog 5 #[] w fun e w' => e = .returned (.bool true) ∧ Below w.heap.size w w' := by
  obtain ⟨i0, hi, hz0, hz1, hz2⟩ := info_parts Tryd.info3''
  obtain ⟨k0, hk0, hx0, hx1, hx2⟩ := info_parts Tryd.info34
  obtain ⟨j0, hj, hy0, hy1, hy2⟩ := info_parts Tryd.info5
  have HE := Lib.hid he
  have HX1 : Hid (parseB (W8 ⟨#[99, 32, 120, 10, 112, 32, 99, 110, 102, 32, 50, 32, 49, 10, 99, 10, 49, 10, 50, 32, 48]⟩) = ⟨2, [[1, 2]], 0, 0⟩) := x1_parse
  have HX2 : Hid (parseB (W8 ⟨#[112, 32, 99, 110, 102, 32, 48, 32, 48]⟩) = ⟨0, [], 0, 0⟩) := x2_parse
  have HEQ := Lib.hid eq12
  clear he
  go_enter Tryd.func5, Tryd.ntmps5
  go_wp2_with fail
  refine (parse_is (o := ⟨2, [[1, 2]], 0, 0⟩) (l := 1) HX1.out rfl _ (by simp [ByteArray.size]) HE.out).mono ?_
  rintro e w1 ⟨a1, c1, rfl, hR1, hB1⟩
  have HR1 := Lib.hid (((hR1.alloc (.cells #[.int .i64 2, .slice a1 1 c1] 24)).alloc (.cells #[.int .i64 1, .int .i64 2] 3)).alloc (.cells #[.slice (some ⟨w1.heap.size + 1, 0, none⟩) 2 2] 34))
  have hF1 := ((Two.new w1 (.int .i64 2) (.slice a1 1 c1)).alloc (.cells #[.int .i64 1, .int .i64 2] 3)).alloc (.cells #[.slice (some ⟨w1.heap.size + 1, 0, none⟩) 2 2] 34)
  have HF1 := Lib.hid hF1
  have HS1 := Lib.hid (one_rows (w1.alloc (.cells #[.int .i64 2, .slice a1 1 c1] 24)) (b := w1.heap.size + 1) (g := w1.heap.size + 1 + 1) (by simp) (by simp))
  have HB1 := Lib.hid (((hB1.alloc hB1.size (.cells #[.int .i64 2, .slice a1 1 c1] 24)).alloc (Nat.le_trans hB1.size (by simp)) (.cells #[.int .i64 1, .int .i64 2] 3)).alloc (Nat.le_trans hB1.size (by simp; omega)) (.cells #[.slice (some ⟨w1.heap.size + 1, 0, none⟩) 2 2] 34))
  have hws : w.heap.size ≤ w1.heap.size := hB1.size
  clear hR1 hB1 hF1
  go_wp2_with fail
  refine (equalFormula_is (n := 2) (k := 2) (xs := [[1, 2]]) (ys := [[1, 2]]) (i := 1) (j := 1) rfl rfl HEQ.out _ _ _ _ _ (by unfold maxLen; omega) (fun z hz => by simp at hz; subst hz; unfold maxLen; simp) HR1.out HS1.out).mono ?_
  rintro e w2 ⟨rfl, hB2⟩
  have HB2 := Lib.hid (HB1.out.trans (hB2.mono HB1.out.size))
  have HF2 := Lib.hid (HF1.out.below hB2 HF1.out.lt)
  clear hB2 HB1 HR1 HS1 HF1
  go_wp2_with fail
  refine (parse_is (o := ⟨0, [], 0, 0⟩) (l := 0) HX2.out rfl _ (by simp [ByteArray.size]) (HE.out.below HB2.out)).mono ?_
  rintro e w3 ⟨a3, c3, rfl, hR3, hB3⟩
  have HF3 := Lib.hid (HF2.out.below hB3 HF2.out.lt)
  have HB3 := Lib.hid (HB2.out.trans (hB3.mono HB2.out.size))
  have HR3 := Lib.hid (show RowsR .i64 ((w3.setCell ⟨w1.heap.size, 0, none⟩ (.int .i64 0)).setCell ⟨w1.heap.size, 1, none⟩ (.slice a3 0 c3)) a3 [] from .inl rfl)
  clear hR3 hB3 HB2 HF2
  have f0 := HF3.out.free 0
  have f1 := HF3.out.free 1
  have c0 := HF3.out.c0
  have c1' := HF3.out.c1
  have HG3 := Lib.hid ((HF3.out.set0 (.int .i64 0)).set1 (.slice a3 0 c3))
  have HC3 := Lib.hid ((HB3.out.setCell (p := ⟨w1.heap.size, 0, none⟩) hws (.int .i64 0)).setCell (p := ⟨w1.heap.size, 1, none⟩) hws (.slice a3 0 c3))
  have g0 := HG3.out.c0
  have g1 := HG3.out.c1
  go_wp2_with fail
  refine (equalFormula_is (n := 0) (k := 0) (xs := []) (ys := []) (i := 0) (j := 0) rfl rfl (eqFm_refl 0 []) _ _ _ _ _ (by unfold maxLen; omega) (fun z hz => by cases hz) HR3.out (.inl rfl)).mono ?_
  rintro e w4 ⟨rfl, hB4⟩
  have HB4 := Lib.hid (HC3.out.trans (hB4.mono HC3.out.size))
  clear hB4 HF3 HB3 HG3 HC3 HR3 f0 f1 c0 c1' g0 g1
  have hTx : ∀ o2 o3, (((w4.alloc (.cells txA 9)).alloc o2).alloc o3).heap[w4.heap.size]? = some (.cells txA 9 (0, 0)) := fun o2 o3 => by
    rw [Below.heap_alloc _ _ _ (by simp; omega), Below.heap_alloc _ _ _ (by simp)]
    exact heap_alloc_new _ _
  have hLn : ∀ o1 o3, (((w4.alloc o1).alloc (.cells lnA 3)).alloc o3).heap[w4.heap.size + 1]? = some (.cells lnA 3 (0, 0)) := fun o1 o3 => by
    rw [Below.heap_alloc _ _ _ (by simp)]
    have := heap_alloc_new (w4.alloc o1) (.cells lnA 3)
    simpa using this
  have hEr : ∀ o1 o2, (((w4.alloc o1).alloc o2).alloc (.cells erA 27)).heap[w4.heap.size + 1 + 1]? = some (.cells erA 27 (0, 0)) := fun o1 o2 => by
    have := heap_alloc_new ((w4.alloc o1).alloc o2) (.cells erA 27)
    simpa using this
  have hBx : ∀ o1 o2 o3, Below w.heap.size w (((w4.alloc o1).alloc o2).alloc o3) := fun o1 o2 o3 =>
    ((HB4.out.alloc HB4.out.size o1).alloc (Nat.le_trans HB4.out.size (by simp)) o2).alloc (Nat.le_trans HB4.out.size (by simp; omega)) o3
  have HTx := Lib.hid hTx
  have HLn := Lib.hid hLn
  have HEr := Lib.hid hEr
  have HBx := Lib.hid hBx
  clear hTx hLn hEr hBx
  go_wp2_with fail
  go_loopw [7] (fun i wr => ∃ k : Nat, k ≤ 18 ∧ i = .int .i64 k ∧ Hid (wr.heap[w4.heap.size]? = some (.cells txA 9 (0, 0))) ∧ Hid (wr.heap[w4.heap.size + 1]? = some (.cells lnA 3 (0, 0))) ∧ Hid (wr.heap[w4.heap.size + 1 + 1]? = some (.cells erA 27 (0, 0))) ∧ Hid (Below w.heap.size w wr)) (fun i _ => 18 - (intOf i).toNat)
  case atStart => exact ⟨0, by omega, rfl, HTx.out _ _, HLn.out _ _, HEr.out _ _, HBx.out _ _ _⟩
  case round =>
    clear HTx HLn HEr HBx
    obtain ⟨k, hk, rfl, HT, HL, HR, HB⟩ := hrel
    by_cases hlt : k < 18
    · have ct := heap_cell HT.out (txA_at k hlt)
      obtain ⟨hp, hsz⟩ := tx_parse ⟨k, hlt⟩
      simp only at hp hsz
      have hl := lnA_at k hlt
      have hr := erA_at k hlt
      generalize txK k = t at ct hp hsz
      generalize lns.getD k 0 = l at hp hl
      generalize ers.getD k 0 = r at hp hr
      have HP := Lib.hid hp
      have Hl := Lib.hid hl
      have Hr := Lib.hid hr
      clear hp hl hr
      have hts : (w4.heap.size < wr.heap.size) ∧ (w4.heap.size + 1 < wr.heap.size) ∧ (w4.heap.size + 1 + 1 < wr.heap.size) := ⟨(Array.getElem?_eq_some_iff.1 HT.out).1, (Array.getElem?_eq_some_iff.1 HL.out).1, (Array.getElem?_eq_some_iff.1 HR.out).1⟩
      obtain ⟨ht1, ht2, ht3⟩ := hts
      have hk1 : (k : Int) < 18 := by omega
      go_wp2_with fail
      refine (parse_is (o := ⟨0, [], l, r⟩) (l := 0) HP.out rfl _ (by omega) (HE.out.below HB.out)).mono ?_
      rintro e w5 ⟨a5, c5, rfl, hR5, hB5⟩
      have HB5 := Lib.hid ((HB.out.trans (hB5.mono HB.out.size)).alloc (Nat.le_trans HB.out.size hB5.size) (.cells #[.int .i64 0, .slice a5 0 c5] 24))
      have HR5 := Lib.hid (hR5.alloc (.cells #[.int .i64 0, .slice a5 0 c5] 24))
      have HF5 := Lib.hid (Two.new w5 (.int .i64 0) (.slice a5 0 c5))
      have hb5 := hB5.alloc hB5.size (.cells #[.int .i64 0, .slice a5 0 c5] 24)
      have HT5 := Lib.hid ((hb5.block _ ht1).trans HT.out)
      have HL5 := Lib.hid ((hb5.block _ ht2).trans HL.out)
      have HRr5 := Lib.hid ((hb5.block _ ht3).trans HR.out)
      have f0 := HF5.out.c0
      have f1 := HF5.out.c1
      clear hR5 hB5 hb5 HB HT HL HR ct
      go_wp2_with fail
      refine (equalFormula_is (n := 0) (k := 0) (xs := []) (ys := []) (i := 0) (j := 0) rfl rfl (eqFm_refl 0 []) _ _ _ _ _ (by unfold maxLen; omega) (fun z hz => by cases hz) HR5.out (.inl rfl)).mono ?_
      rintro e w6 ⟨rfl, hB6⟩
      have HB6 := Lib.hid (HB5.out.trans (hB6.mono HB5.out.size))
      have HT6 := Lib.hid ((hB6.block _ (Array.getElem?_eq_some_iff.1 HT5.out).1).trans HT5.out)
      have HL6 := Lib.hid ((hB6.block _ (Array.getElem?_eq_some_iff.1 HL5.out).1).trans HL5.out)
      have HR6 := Lib.hid ((hB6.block _ (Array.getElem?_eq_some_iff.1 HRr5.out).1).trans HRr5.out)
      have ht4 : w4.heap.size + 1 + 1 < w6.heap.size := (Array.getElem?_eq_some_iff.1 HR6.out).1
      have cl := heap_cell HL6.out Hl.out
      have cr := heap_cell HR6.out Hr.out
      clear hB6 HB5 HT5 HL5 HRr5 HF5 HR5 f0 f1
      go_wp2_with fail
      go_roundw
      case rel => exact ⟨k + 1, by omega, by go_num, HT6, HL6, HR6, HB6⟩
      case measure => simp [intOf]; omega
    · obtain rfl : k = 18 := by omega
      clear HT HL HR
      have hwz : w.heap.size ≤ wr.heap.size := HB.out.size
      go_wp2_with (at_make; refine wpList_make_full _ rfl _ _ 37 rfl w.heap.size 5 j0 (.int .u8 0) 1 Tryd.underlying37 hj hy0 hy1 .i64 .i64 _ _ 65537 rfl rfl rfl rfl (by rw [hy2]; omega) (by unfold maxLen; omega) hwz ?_; intro w7 hown0 hgrow0)
      have hO : Hid (w7.ownsRow w.heap.size 5 1 (.slice (some ⟨wr.heap.size, 0, none⟩) 65537 65537) 65537 ((fillX 32 65537 0).map (Value.int .u8))) := by
        unfold Hid
        have e : (madeCells (Value.int IntKind.u8 0).cells (65537 * 1)).toList = (fillX 32 65537 0).map (Value.int .u8) := (toList_madeCells_one (Value.int .u8 0) (65537 * 1)).trans (by rw [fillX_zero, List.map_replicate])
        rw [e] at hown0
        exact hown0
      have hB7 : Hid (Below w.heap.size w w7) := HB.out.grown hgrow0 hwz (fun k hk => by cases hk)
      clear hown0 hgrow0 HB
      generalize wr.heap.size = G at hO hwz ⊢
      go_wp2_with fail
      go_loopw [12] (fun i wr' => ∃ k : Nat, i = .int .i64 k ∧ k ≤ 65537 ∧ Hid (wr'.ownsRow w.heap.size 5 1 (.slice (some ⟨G, 0, none⟩) 65537 65537) 65537 ((fillX 32 65537 k).map (Value.int .u8))) ∧ Hid (Below w.heap.size w wr')) (fun i _ => 65537 - (intOf i).toNat)
      case atStart => exact ⟨0, rfl, by omega, hO, hB7⟩
      case round =>
        clear hO hB7
        obtain ⟨k, rfl, hk, HO, HB⟩ := hrel
        by_cases hlt : k < 65537
        · have hk1 : (k : Int) < 65537 := by omega
          have hGl : G < wr.heap.size := (World.ownsRow.lt HO.out G rfl).2
          have hfr : wr.frozen? ⟨G, k, none⟩ = false := HO.out.frozenAt k
          obtain ⟨u0, hc0⟩ : ∃ u, wr.cell? ⟨G, k, none⟩ = some u := ⟨_, by rw [HO.out.cellAt k (by omega), List.getElem?_eq_getElem (by rw [List.length_map, fillX_length 32 65537 k hk]; omega)]⟩
          have hP : Hid ((wr.setCell ⟨G, k, none⟩ (.int .u8 32)).ownsRow w.heap.size 5 1 (.slice (some ⟨G, 0, none⟩) 65537 65537) 65537 ((fillX 32 65537 (k + 1)).map (Value.int .u8))) := by
            unfold Hid; rw [← fillX_set 32 65537 k hlt, List.map_set]; exact (HO.out.stored k _).1
          have hQ : Hid (Below w.heap.size w (wr.setCell ⟨G, k, none⟩ (.int .u8 32))) := HB.out.setCell (p := ⟨G, k, none⟩) hwz _
          clear HO HB
          go_wp2
          go_roundw
          case rel => exact ⟨k + 1, by go_num, by omega, hP, hQ⟩
          case measure => simp [intOf]; omega
        · obtain rfl : k = 65537 := by omega
          have hGl : G < wr.heap.size := (World.ownsRow.lt HO.out G rfl).2
          have hcell : ∀ j, j < 65537 → wr.cell? ⟨G, j, none⟩ = some (.int .u8 32) := fun j hj => by
            rw [HO.out.cellAt j (by omega), fillX_all, List.map_replicate, List.getElem?_replicate, if_pos hj]
          have HCE := Lib.hid hcell
          have hcv := sp_string (w := wr) (g := G) (off := 0) (n := 65537) (cap := 65537) (fun j hj => by rw [Nat.zero_add]; exact hcell j hj)
          obtain ⟨s1, hs1⟩ : ∃ s, str (List.replicate 65537 32) = s := ⟨_, rfl⟩
          obtain ⟨s2, hs2⟩ : ∃ s, str (List.replicate 65536 32) = s := ⟨_, rfl⟩
          have hz1' : s1.size ≤ 1048576 := by rw [← hs1, str_size, List.length_replicate]; omega
          have hz2' : s2.size ≤ 1048576 := by rw [← hs2, str_size, List.length_replicate]; omega
          have HP1 : Hid (parseB (W8 s1) = ⟨0, [], 0, 5⟩) := by unfold Hid; rw [← hs1, w8_str]; exact sp_long 65537 (by omega)
          have HP2 : Hid (parseB (W8 s2) = ⟨0, [], 2, 4⟩) := by unfold Hid; rw [← hs2, w8_str]; exact sp_parse 65536 (by omega) (by omega)
          rw [hs1] at hcv
          have HS2 := Lib.hid hs2
          clear hs1 hs2 hcell HO
          go_wp2_with fail
          refine (parse_is (o := ⟨0, [], 0, 5⟩) (l := 0) HP1.out rfl _ hz1' (HE.out.below HB.out)).mono ?_
          rintro e w8 ⟨a8, c8, rfl, _, hB8⟩
          have HB8 := Lib.hid (HB.out.trans (hB8.mono HB.out.size))
          have hcv2 := sp_string (w := w8) (g := G) (off := 1) (n := 65536) (cap := 65536) (fun j hj => (hB8.cell (p := ⟨G, 1 + j, none⟩) hGl).trans (HCE.out (1 + j) (by omega)))
          rw [HS2.out] at hcv2
          clear hcv hB8 HB HCE HS2
          go_wp2_with fail
          refine (parse_is (o := ⟨0, [], 2, 4⟩) (l := 0) HP2.out rfl _ hz2' (HE.out.below HB8.out)).mono ?_
          rintro e w9 ⟨a9, c9, rfl, _, hB9⟩
          have HB9 := Lib.hid (HB8.out.trans (hB9.mono HB8.out.size))
          clear hcv2 hB9 HB8 HP1 HP2 hz1' hz2' hwz hGl
          have hwz : w.heap.size ≤ w9.heap.size + 1 := Nat.le_trans HB9.out.size (by omega)
          have HSA : Hid (∀ o, (w9.alloc o).heap.size = w9.heap.size + 1) := fun o => by simp
          have HBA : Hid (∀ o, Below w.heap.size w (w9.alloc o)) := fun o => HB9.out.alloc HB9.out.size o
          go_wp2_with (at_make; refine wpList_make_full _ rfl _ _ 34 rfl w.heap.size 3 i0 (.int .i64 0) 1 Tryd.underlying34 hi hz0 hz1 .i64 .i64 _ _ 4096 rfl rfl rfl rfl (by rw [hz2]; omega) (by unfold maxLen; omega) (by rw [HSA.out]; exact hwz) ?_; intro w10 hown0 hgrow0)
          have hO : Hid (w10.ownsRow w.heap.size 3 1 (.slice (some ⟨w9.heap.size + 1, 0, none⟩) 4096 4096) 4096 ((fillX 524288 4096 0).map (Value.int .i64))) := by
            unfold Hid
            have e : (madeCells (Value.int IntKind.i64 0).cells (4096 * 1)).toList = (fillX 524288 4096 0).map (Value.int .i64) := (toList_madeCells_one (Value.int .i64 0) (4096 * 1)).trans (by rw [fillX_zero, List.map_replicate])
            rw [e, HSA.out] at hown0
            exact hown0
          have hB10 : Hid (Below w.heap.size w w10) := (HBA.out _).grown hgrow0 (by rw [HSA.out]; exact hwz) (fun k hk => by cases hk)
          clear hown0 hgrow0 HB9 HSA HBA
          generalize w9.heap.size + 1 = C at hO hwz ⊢
          go_wp2_with fail
          go_loopw [17] (fun i wr' => ∃ k : Nat, i = .int .i64 k ∧ k ≤ 4096 ∧ Hid (wr'.ownsRow w.heap.size 3 1 (.slice (some ⟨C, 0, none⟩) 4096 4096) 4096 ((fillX 524288 4096 k).map (Value.int .i64))) ∧ Hid (Below w.heap.size w wr')) (fun i _ => 4096 - (intOf i).toNat)
          case atStart => exact ⟨0, rfl, by omega, hO, hB10⟩
          case round =>
            clear hO hB10
            obtain ⟨k, rfl, hk, HO, HB⟩ := hrel
            by_cases hlt : k < 4096
            · have hk1 : (k : Int) < 4096 := by omega
              have hGl : C < wr.heap.size := (World.ownsRow.lt HO.out C rfl).2
              have hfr : wr.frozen? ⟨C, k, none⟩ = false := HO.out.frozenAt k
              obtain ⟨u0, hc0⟩ : ∃ u, wr.cell? ⟨C, k, none⟩ = some u := ⟨_, by rw [HO.out.cellAt k (by omega), List.getElem?_eq_getElem (by rw [List.length_map, fillX_length 524288 4096 k hk]; omega)]⟩
              have hP : Hid ((wr.setCell ⟨C, k, none⟩ (.int .i64 524288)).ownsRow w.heap.size 3 1 (.slice (some ⟨C, 0, none⟩) 4096 4096) 4096 ((fillX 524288 4096 (k + 1)).map (Value.int .i64))) := by
                unfold Hid; rw [← fillX_set 524288 4096 k hlt, List.map_set]; exact (HO.out.stored k _).1
              have hQ : Hid (Below w.heap.size w (wr.setCell ⟨C, k, none⟩ (.int .i64 524288))) := HB.out.setCell (p := ⟨C, k, none⟩) hwz _
              clear HO HB
              go_wp2
              go_roundw
              case rel => exact ⟨k + 1, by go_num, by omega, hP, hQ⟩
              case measure => simp [intOf]; omega
            · obtain rfl : k = 4096 := by omega
              have hGl : C < wr.heap.size := (World.ownsRow.lt HO.out C rfl).2
              have hci : IntsR wr (some ⟨C, 0, none⟩) big := by
                refine .inr ⟨C, 0, rfl, hGl, fun j hj => ?_⟩
                rw [big_length] at hj
                rw [Nat.zero_add, HO.out.cellAt j (by omega), fillX_all, List.map_replicate, List.getElem?_replicate, if_pos hj]
                unfold big
                rw [List.getD_eq_getElem?_getD, List.getElem?_replicate, if_pos hj]; rfl
              have HM0 : Hid (ManyAt w (wr.alloc (.cells #[.int .i64 1048576, .slice none 0 0] 24)) wr.heap.size C 0 (.slice none 0 0)) :=
                ⟨Two.new _ _ _, World.ownsRow_nil _ _ _ _, hci.alloc _, HB.out.alloc HB.out.size _, hGl, HB.out.size⟩
              clear hci HO HB hwz hGl
              go_wp2_with fail
              generalize wr.alloc (.cells #[.int .i64 1048576, .slice none 0 0] 24) = wm at HM0 ⊢
              generalize wr.heap.size = M at HM0 ⊢
              rw [show ((4096 : Nat) : Int) = 4096 from rfl]
              go_loopw [19] (fun i wr' => ∃ (k : Nat) (v : Value), i = .int .i64 k ∧ k ≤ 3 ∧ Hid (ManyAt w wr' M C k v)) (fun i _ => 3 - (intOf i).toNat)
              case atStart => exact ⟨0, _, rfl, by omega, HM0⟩
              case round =>
                clear HM0
                obtain ⟨k, v, rfl, hk, HM⟩ := hrel
                have q1 := HM.out.f.c1
                have hMl := HM.out.f.lt
                by_cases hlt : k < 3
                · have hk1 : (k : Int) < 3 := by omega
                  have H1 := Lib.hid HM.out.row
                  have HX := fun o v' w3 => Lib.hid (ManyAt.next (w1 := w3) (v' := v') (o := o) HM.out)
                  clear HM
                  go_wp2_with (at_builtin; refine wpList_append_own_at _ rfl _ _ 22 rfl (M + 1) 34 k0 (.slice none 0 0) 1 24 Tryd.underlying22 hk0 hx0 hx1 hx2 rfl (by decide) _ _ _ rfl (World.ownsRow.alloc H1.out _) ⟨wr.heap.size, 0, none⟩ 1 1 [.slice (some ⟨C, 0, none⟩) 4096 4096] rfl rfl (one_new (by rfl)) one_slice ?d3 ?d4 ?d5 ?_)
                  case d3 => unfold maxLen; omega
                  case d4 => omega
                  case d5 => simp; omega
                  intro v' w3 hown' hgrow _ hat
                  obtain ⟨g9, cap9, rfl⟩ := Go.Joins.ownsRow_form hown' (by omega)
                  obtain ⟨hN, hT⟩ := (HX _ _ _).out hown' hgrow
                  have HN2 := Lib.hid hN
                  have q2 := hT.c1
                  have f2 := hT.free 1
                  clear hown' hgrow hat hN hT HX q1 H1
                  go_wp2
                  go_roundw
                  case rel => exact ⟨k + 1, _, by go_num, by omega, HN2⟩
                  case measure => simp [intOf]; omega
                · obtain rfl : k = 3 := by omega
                  obtain ⟨a, c, rfl, hR⟩ := HM.out.rows
                  have HR := Lib.hid hR
                  have q0 := HM.out.f.c0
                  have HB := Lib.hid HM.out.below
                  clear hR HM
                  go_wp2_with fail
                  refine (many_is rfl _ _ _ HR.out (HE.out.below HB.out)).mono ?_
                  rintro e wf ⟨rfl, hBf⟩
                  have HBf := Lib.hid (HB.out.trans (hBf.mono HB.out.size))
                  clear hBf HB HR q0 q1
                  go_wp2_with fail
                  refine (known_any _ (HE.out.below HBf.out)).mono ?_
                  rintro e wg ⟨rfl, hBg⟩
                  have HBg := Lib.hid (HBf.out.trans (hBg.mono HBf.out.size))
                  clear hBg
                  go_wp2
                  go_ret
                  exact ⟨rfl, HBg.out⟩
end Go.Proofs.YtkannkalbhmlcaaDoor
