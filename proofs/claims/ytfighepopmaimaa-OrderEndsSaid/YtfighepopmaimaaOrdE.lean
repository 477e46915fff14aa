/-
  advance, push, pop.
-/
import Derived.Test.YtfighepopmaimaaOrdD
import Derived.Maps.AppendAt
import Derived.Lib.SmallJoins
namespace Go.Proofs.Ytfighepopmaimaa
open Go.RowKit Go.Lib
open Go.RowKit (Below)

/-- A queue between the calls. -/
structure Qu (T : TypeId) (m : Mq) (Q : Qs) (w : World) : Prop where
  q : QR T m Q w
  ok : Q.Ok
  heap : Q.Heap
theorem Qu.below {T : TypeId} {m : Mq} {Q : Qs} {w w' : World} (h : Qu T m Q w) (hb : Below w.heap.size w w') : Qu T m Q w' := ⟨h.q.below hb, h.ok, h.heap⟩
theorem Qu.apart {T : TypeId} {m : Mq} {Q : Qs} {w w' : World} (h : Qu T m Q w) {fs : List Nat} (ht : Touch fs w w') (hf : ∀ g, g ∈ m.foot → g ∉ fs) : Qu T m Q w' := ⟨h.q.apart ht hf, h.ok, h.heap⟩
/-- What a queue is behind a call that touches only it: the same activities and elements but for what is said. -/
def After (T : TypeId) (m : Mq) (n : Nat) (act : Nat → Int) (mem : Nat → Prop) (w w' : World) : Prop :=
  ∃ m' Q', Qu T m' Q' w' ∧ Q'.n = n ∧ Q'.act = act ∧ (∀ e, e ∈ Q'.tree ↔ mem e) ∧ m'.gb = m.gb ∧ Touch m.foot w w' ∧ ∀ g, g ∈ m'.foot → g ∈ m.foot ∨ w.heap.size ≤ g

theorem Try.infoInt : (Try.prog.info? 3).map (fun i => (i.zero, i.size, i.bytes)) = some (some (.int .i64 0), 1, 8) := by kernel_rfl
theorem one_new {w : World} {x : Value} {T : TypeId} {b : Nat} (hb : b = w.heap.size) : ∀ (j : Nat) (u : Value), [x][j]? = some u → (w.alloc (.cells #[x] T)).cell? ((⟨b, 0, none⟩ : Addr).add j) = some u := by
  intro j u hj
  match j, hj with
  | 0, hj => simp at hj; subst hj; rw [Addr.add_lit]; exact World.cell?_alloc_at _ _ _ _ hb
theorem one_int {k : IntKind} {x : Int} : ∀ u ∈ [Value.int k x], u.oneCell' = true := by
  intro u hu; simp at hu; subst hu; rfl

section
variable {T : TypeId} {m : Mq} {Q : Qs} {w : World}
theorem DoneQ.after {w0 w' : World} {n : Nat} {act : Nat → Int} {mem : Nat → Prop} {fs : List Nat} {m0 : Mq} (h : DoneQ T m Q w w') (h1 : Q.n = n) (h2 : Q.act = act) (h3 : ∀ e, e ∈ Q.tree ↔ mem e) (hg : m.gb = m0.gb) (ht : Touch fs w0 w) (hfs : fs = m0.foot) (hn : ∀ g, g ∈ m.foot → g ∈ m0.foot ∨ w0.heap.size ≤ g) :
    After T m0 n act mem w0 w' := by
  obtain ⟨Q', hm, hh⟩ := h
  subst hfs
  exact ⟨m, Q', ⟨hm.q, hm.ok, hh⟩, hm.same.n.trans h1, hm.same.act.trans h2, fun e => (hm.same.mem e).trans (h3 e), hg, ht.then_ hn hm.touch, hn⟩

set_option maxHeartbeats 1000000 in
theorem advance_any (h : Qu T m Q w) {e : Nat} (he : e < Q.n) {x : Int} (hx : Q.act e ≤ x) :
    Calls Try.prog 33 #[.pointer (some ⟨m.gb, 0, none⟩), .int .i64 (e : Int), .agg #[.int .i64 x, .int .i64 ((e : Int) + 1)]] w fun r w' => r = .returned (.tuple #[]) ∧ After T m Q.n (upN Q.act e x) (fun f => f ∈ Q.tree) w w' := by
  have hb0 : Below w.heap.size w (w.alloc (.cells #[.int .i64 x, .int .i64 ((e : Int) + 1)] 57)) := boxed _ _
  generalize hw0 : w.alloc (.cells #[.int .i64 x, .int .i64 ((e : Int) + 1)] 57) = w0 at hb0
  have HB0 := Lib.hid hb0
  have h1 := h.below hb0
  have c1 := h1.q.c1
  have he1 : (e : Int) < (Q.n : Int) := by omega
  have he0 : (0 : Int) ≤ (e : Int) := by omega
  have hfew := h1.q.few
  have k1 := h1.q.ka he
  have k2 := h1.q.kv he
  have f1 := h1.q.keys.free (e * 2)
  have f2 := h1.q.keys.free (e * 2 + 1)
  have pb : Blk w0 w.heap.size 57 [.int .i64 x, .int .i64 ((e : Int) + 1)] := by rw [← hw0]; exact Blk.new _ _ _
  have p0 : w0.cell? ⟨w.heap.size, 0, none⟩ = some (.int .i64 x) := pb.cell rfl
  have p1 : w0.cell? ⟨w.heap.size, 1, none⟩ = some (.int .i64 ((e : Int) + 1)) := pb.cell rfl
  clear pb
  have H := Lib.hid h
  have H1 := Lib.hid h1
  have HE := Lib.hid he
  have HX := Lib.hid hx
  have HW0 := Lib.hid hw0
  clear h h1 he hx hb0 hw0
  go_enter Try.func33, Try.ntmps33
  go_wp2
  rw [HW0.out]
  go_region
  have h2 := (H1.out.q.setKey e x).setVar e
  have ht2 : Touch m.foot w ((w0.setCell ⟨m.kb, e * 2, none⟩ (.int .i64 x)).setCell ⟨m.kb, e * 2 + 1, none⟩ (.int .i64 ((e : Int) + 1))) :=
    ((Touch.of_below HB0.out _).trans (Touch.setCell _ (by simp [Mq.foot]))).trans (Touch.setCell _ (by simp [Mq.foot]))
  generalize ((w0.setCell ⟨m.kb, e * 2, none⟩ (.int .i64 x)).setCell ⟨m.kb, e * 2 + 1, none⟩ (.int .i64 ((e : Int) + 1))) = w2 at *
  have hq2 : QuietTo w2 w2.drew := ⟨1, rfl⟩
  have h3 := h2.below (quietBelow hq2 _)
  have ht3 := ht2.trans (Touch.quiet hq2 _)
  generalize w2.drew = w3 at *
  have hok : ({ Q with act := upN Q.act e x } : Qs).Ok := ⟨H1.out.ok.lt, H1.out.ok.here, H1.out.ok.gone⟩
  have H3 := Lib.hid h3
  have HT3 := Lib.hid ht3
  have HOK := Lib.hid hok
  clear h2 ht2 hq2 h3 ht3 hok c1 k1 k2 f1 f2 p0 p1
  have HGO : ∀ (b : Bool), (Q.pl e != -1) = b → Calls Try.prog 37 #[.pointer (some ⟨m.gb, 0, none⟩), .int .i64 (e : Int)] w3 fun x w' => x = .returned (.bool b) ∧ w3 = w' := fun b hb => has_is H3.out (e := e) HE.out hb
  have HGO := Lib.hid HGO
  by_cases hm : e ∈ Q.tree
  · obtain ⟨p, hp, hpe, hpl⟩ := H.out.ok.place hm
    have hb : (Q.pl e != -1) = true := by rw [hpl]; simp
    have K := Lib.hid (HGO.out true hb)
    have K2 := Lib.hid (rise_any H3.out HOK.out (H.out.heap.raise H.out.ok HX.out hp hpe) hp)
    have c3 := H3.out.c3
    have pa := H3.out.pa (e := e) HE.out
    dsimp only at c3 pa
    rw [hpl] at pa
    clear hb hm hp hpe hpl
    go_wp2_with (first | (go_at_call 37; refine K.out.mono ?_; rintro e' w' ⟨rfl, rfl⟩) | (go_at_call 39; refine K2.out.mono ?_; rintro e' w' ⟨rfl, hd⟩))
    have HD := Lib.hid (hd.after (m0 := m) (n := Q.n) (act := upN Q.act e x) (mem := fun f => f ∈ Q.tree) rfl rfl (fun _ => Iff.rfl) rfl HT3.out rfl (fun g hg => .inl hg))
    clear hd
    go_end0
    exact ⟨rfl, HD.out⟩
  · have hb : (Q.pl e != -1) = false := by rw [H.out.ok.gone e HE.out hm]; rfl
    have K := Lib.hid (HGO.out false hb)
    have HF := Lib.hid (H.out.heap.away (x := x) hm)
    clear hb hm
    go_wp2_with (first | (go_at_call 37; refine K.out.mono ?_; rintro e' w' ⟨rfl, rfl⟩))
    go_end0
    exact ⟨rfl, m, _, ⟨H3.out, HOK.out, HF.out⟩, rfl, rfl, fun _ => Iff.rfl, rfl, HT3.out, fun g hg => .inl hg⟩

theorem push_in (h : Qu T m Q w) {e : Nat} (he : e < Q.n) (hm : e ∈ Q.tree) :
    Calls Try.prog 36 #[.pointer (some ⟨m.gb, 0, none⟩), .int .i64 (e : Int)] w fun r w' => r = .returned (.tuple #[]) ∧ w = w' := by
  have hb : (Q.pl e != -1) = true := by have := (h.ok.mem he).1 hm; simpa using this
  have K := Lib.hid (has_is h.q he hb)
  clear h he hm hb
  go_enter Try.func36, Try.ntmps36
  go_wp2_with (first | (go_at_call 37; refine K.out.mono ?_; rintro e' w' ⟨rfl, rfl⟩))
  exact bodyPost_ret (results_none rfl _ _ _) rfl ⟨rfl, rfl⟩

set_option maxHeartbeats 1000000 in
theorem push_out (h : QR T m Q w) (ho : Q.Ok) (hh : Q.Heap) {e : Nat} (he : e < Q.n) (hm : e ∉ Q.tree) :
    Calls Try.prog 36 #[.pointer (some ⟨m.gb, 0, none⟩), .int .i64 (e : Int)] w fun r w' => r = .returned (.tuple #[]) ∧ After T m Q.n Q.act (fun f => f ∈ Q.tree ∨ f = e) w w' := by
  have hb : (Q.pl e != -1) = false := by rw [ho.gone e he hm]; rfl
  have K := Lib.hid (has_is h he hb)
  have c2 := h.c2
  have he1 : (e : Int) < (Q.n : Int) := by omega
  have he0 : (0 : Int) ≤ (e : Int) := by omega
  have hfew := h.few
  have hlen : Q.tree.length ≤ 1048576 := by have := ho.len; omega
  have H := Lib.hid h
  have HO := Lib.hid ho
  have HH := Lib.hid hh
  have HE := Lib.hid he
  have HM := Lib.hid hm
  have HRO : Hid ((w.alloc (.cells #[.int .i64 (e : Int)] 3)).ownsRow 0 3 1 (.slice (some ⟨m.tb, 0, none⟩) Q.tree.length m.tc) Q.tree.length (treeC Q.tree)) := World.ownsRow.alloc h.tree _
  obtain ⟨i0, hi, hz0, hz1, hz2⟩ := info_parts Try.infoInt
  clear h ho hh he hm hb
  go_enter Try.func36, Try.ntmps36
  go_wp2_with (first | (go_at_call 37; refine K.out.mono ?_; rintro e' w' ⟨rfl, rfl⟩) | (at_builtin; refine wpList_append_own_at _ rfl _ _ 45 rfl 0 3 i0 (.int .i64 0) 1 8 Try.underlying45 hi hz0 hz1 hz2 rfl (by decide) _ _ _ rfl HRO.out ⟨w.heap.size, 0, none⟩ 1 1 [.int .i64 (e : Int)] rfl rfl (one_new (by simp)) one_int ?c3 ?c4 ?c5 ?_))
  case c3 => unfold maxLen; omega
  case c4 => omega
  case c5 => exact Nat.zero_le _
  intro v' w1 hown hgrow _ hat
  obtain ⟨g, cap, rfl⟩ := Go.Joins.ownsRow_form hown (by omega)
  have hl : ∀ b, b < w.heap.size → b ≠ m.tb → w1.heap[b]? = w.heap[b]? := fun b hb hne => (hgrow.block b (by simp; omega) (fun e => hne (by simpa [Value.ownBlock] using e))).trans ((boxed w _).block b hb)
  have hs : w.heap.size ≤ w1.heap.size := by have := hgrow.size; simp at this; omega
  have hg : g = m.tb ∨ w.heap.size ≤ g := by
    rcases hat with h1 | h1
    · left; simpa [Value.ownBlock] using h1
    · right; simp [Value.ownBlock] at h1; omega
  have hrow : Row w1 3 1 g (Q.tree.length + 1) cap (treeC (Q.tree ++ [e])) := by
    unfold Row treeC; rw [List.map_append]; exact hown
  have h2 := H.out.longer hl hrow hg
  have ht2 : Touch m.foot w (w1.setCell ⟨m.gb, 2, none⟩ (.slice (some ⟨g, 0, none⟩) (Q.tree.length + 1) cap)) := by
    have h3 : Touch m.foot w w1 := ⟨hgrow.os, hgrow.tape, hgrow.output, hs, fun b hb hf => hl b hb (fun e => hf (by simp [Mq.foot, e]))⟩
    exact h3.trans (Touch.setCell _ (by simp [Mq.foot]))
  have c2' : w1.cell? ⟨m.gb, 2, none⟩ = some (.slice (some ⟨m.tb, 0, none⟩) Q.tree.length m.tc) := (H.out.blk.of (hl _ H.out.blk.lt H.out.d2)).cell rfl
  have f2 : w1.frozen? ⟨m.gb, 2, none⟩ = false := (H.out.blk.of (hl _ H.out.blk.lt H.out.d2)).free 2
  have H2 := Lib.hid h2
  have HT2 := Lib.hid ht2
  have HG := Lib.hid hg
  clear hown hgrow hat hl hs hg hrow h2 ht2 c2
  go_wp2
  generalize hw2 : w1.setCell ⟨m.gb, 2, none⟩ (.slice (some ⟨g, 0, none⟩) (Q.tree.length + 1) cap) = w2 at *
  have hr := H2.out.setPl e (Q.tree.length : Int)
  have H3 := Lib.hid hr
  have d2 := H2.out.c2
  have d3 := H2.out.c3
  have pa := H2.out.pa HE.out
  have fa := H2.out.pls.free e
  dsimp only at d2 d3 pa fa
  rw [List.length_append] at d2
  simp only [List.length_cons, List.length_nil, Nat.zero_add] at d2
  have hz : ((Q.tree.length + 1 : Nat) : Int) - 1 = (Q.tree.length : Int) := by omega
  clear hw2 hr c2' f2
  go_region
  have ht3 : Touch m.foot w (w2.setCell ⟨m.pb, e, none⟩ (.int .i64 (Q.tree.length : Int))) := HT2.out.trans (Touch.setCell _ (by simp [Mq.foot]))
  have h3 := H3.out
  generalize hw3 : w2.setCell ⟨m.pb, e, none⟩ (.int .i64 (Q.tree.length : Int)) = w3 at *
  have hq3 : QuietTo w3 w3.drew := ⟨1, rfl⟩
  have h4 : QR T { m with tb := g, tc := cap } (Q.snoc e) w3.drew := by
    have h5 := h3.below (quietBelow hq3 _)
    exact h5
  have ht4 := ht3.trans (Touch.quiet hq3 _)
  generalize w3.drew = w4 at *
  have H4 := Lib.hid h4
  have HT4 := Lib.hid ht4
  have hmem : ∀ f, f ∈ (Q.snoc e).tree ↔ f ∈ Q.tree ∨ f = e := fun f => by show f ∈ Q.tree ++ [e] ↔ _; simp
  have HMEM := Lib.hid hmem
  have c3 := h4.c3
  have p4 := h4.pa (e := e) HE.out
  have hpe : (Q.snoc e).pl e = (Q.tree.length : Int) := by show upN Q.pl e (Q.tree.length : Int) e = _; rw [upN_same]
  rw [hpe] at p4
  dsimp only at c3 p4
  have hn : (Q.snoc e).n = Q.n := rfl
  rw [hn] at c3
  have hL : Q.tree.length < (Q.snoc e).tree.length := by show _ < (Q.tree ++ [e]).length; simp
  have K2 := Lib.hid (rise_any h4 (HO.out.snoc HE.out HM.out) (HH.out.snoc e) hL)
  clear hw3 hq3 h3 ht3 h4 ht4 hmem hpe hn hL d2 d3 pa fa hz H3
  dsimp only at K2
  go_wp2_with (go_at_call 39; refine K2.out.mono ?_; rintro e' w' ⟨rfl, hd⟩)
  have HD : Hid (After T m Q.n Q.act (fun f => f ∈ Q.tree ∨ f = e) w w') := hd.after rfl rfl HMEM.out rfl HT4.out rfl (fun b hb => by
    simp only [Mq.foot, List.mem_cons, List.not_mem_nil, or_false] at hb ⊢
    rcases hb with h1 | h1 | h1 | h1
    · exact .inl (.inl h1)
    · exact .inl (.inr (.inl h1))
    · rcases HG.out with h2 | h2
      · exact .inl (.inr (.inr (.inl (h1.trans h2))))
      · exact .inr (by omega)
    · exact .inl (.inr (.inr (.inr h1))))
  clear hd
  go_end0
  exact ⟨rfl, HD.out⟩

/-- What is known behind the exchange of the root and the last one. -/
theorem popped (h : Qu T m Q w) {e L : Nat} (hL : Q.tree.length = L + 1) (hroot : Q.at_ 0 = e) {w2 : World} (hq : QR T m (Q.swap 0 L) w2) :
    w2.cell? ⟨m.gb, 2, none⟩ = some (.slice (some ⟨m.tb, 0, none⟩) (L + 1) m.tc) ∧ w2.frozen? ⟨m.gb, 2, none⟩ = false ∧ (L : Int) ≤ (m.tc : Int) ∧ L ≤ m.tc ∧
      w2.cell? ⟨m.gb, 3, none⟩ = some (.slice (some ⟨m.pb, 0, none⟩) Q.n m.pc) ∧ (e : Int) < (Q.n : Int) ∧ (0 : Int) ≤ (e : Int) ∧ (0 : Int) ≤ (L : Int) ∧
      (∃ x, (w2.setCell ⟨m.gb, 2, none⟩ (.slice (some ⟨m.tb, 0, none⟩) L m.tc)).cell? ⟨m.pb, e, none⟩ = some (.int .i64 x)) ∧
      (w2.setCell ⟨m.gb, 2, none⟩ (.slice (some ⟨m.tb, 0, none⟩) L m.tc)).frozen? ⟨m.pb, e, none⟩ = false ∧
      Hid (Calls Try.prog 41 #[.pointer (some ⟨m.gb, 0, none⟩), .int .i64 0] ((w2.setCell ⟨m.gb, 2, none⟩ (.slice (some ⟨m.tb, 0, none⟩) L m.tc)).setCell ⟨m.pb, e, none⟩ (.int .i64 (-1)))
        (Done T m ((Q.swap 0 L).drop e) ((w2.setCell ⟨m.gb, 2, none⟩ (.slice (some ⟨m.tb, 0, none⟩) L m.tc)).setCell ⟨m.pb, e, none⟩ (.int .i64 (-1))))) := by
  have h0 : 0 < Q.tree.length := by omega
  have hl0 : L < Q.tree.length := by omega
  have hsl : (Q.swap 0 L).tree.length = L + 1 := by rw [Qs.swap_len]; exact hL
  have hok := h.ok.swap h0 hl0
  have hen : e < Q.n := by rw [← hroot]; exact h.ok.lt 0 h0
  have c2 := hq.c2
  rw [hsl] at c2
  have r1 := hq.tree.room
  rw [hsl] at r1
  have h3 := hq.shorter (k := L) (by rw [hsl]; omega)
  have hlast : (Q.swap 0 L).at_ ((Q.swap 0 L).tree.length - 1) = e := by rw [hsl, Nat.add_sub_cancel, Qs.swap_at h0 hl0, if_pos rfl, hroot]
  have hok4 := hok.drop (e := e) (by rw [hsl]; omega) hlast
  have hdn : ((Q.swap 0 L).drop e).HeapDn 0 := by
    have h9 := h.heap.popped h0
    rw [hL, Nat.add_sub_cancel, hroot] at h9; exact h9
  have h9 := h3.setPl e (-1)
  have h4 : QR T m ((Q.swap 0 L).drop e) ((w2.setCell ⟨m.gb, 2, none⟩ (.slice (some ⟨m.tb, 0, none⟩) L m.tc)).setCell ⟨m.pb, e, none⟩ (.int .i64 (-1))) := by
    unfold Qs.drop
    rw [hsl, Nat.add_sub_cancel]
    exact h9
  refine ⟨c2, hq.blk.free 2, by omega, by omega, hq.c3, by omega, by omega, by omega, ⟨_, h3.pa (e := e) hen⟩, h3.pls.free e, ?_⟩
  refine sink_any (p := 0) h4 hok4 hdn ?_
  rw [Qs.drop_len, hsl, Nat.add_sub_cancel]
  by_cases hz : L = 0
  · exact .inr ⟨hz, rfl⟩
  · exact .inl (by omega)

set_option maxHeartbeats 1000000 in
theorem pop_any (h : Qu T m Q w) {e : Nat} (hb : bestN Q.act (fun f => decide (f ∈ Q.tree)) Q.n = some e) :
    Calls Try.prog 35 #[.pointer (some ⟨m.gb, 0, none⟩)] w fun r w' => r = .returned (.int .i64 (e : Int)) ∧ After T m Q.n Q.act (fun f => f ∈ Q.tree ∧ f ≠ e) w w' := by
  have hmem : e ∈ Q.tree := by simpa using (bestN_some hb).2
  have h0 : 0 < Q.tree.length := List.length_pos_of_mem hmem
  have hroot : Q.at_ 0 = e := by have := h.heap.root h.ok h0; rw [hb] at this; injection this with this; exact this.symm
  obtain ⟨L, hL⟩ : ∃ L, Q.tree.length = L + 1 := ⟨Q.tree.length - 1, by omega⟩
  have hlen : (L : Int) ≤ 1048576 := by have := h.ok.len; have := h.q.few; omega
  have c2 := h.q.c2
  have t0 := h.q.ta (i := 0) h0
  rw [hroot] at t0
  rw [hL] at c2
  have hL0 : L < Q.tree.length := by omega
  have H := Lib.hid h
  have HL := Lib.hid hL
  have HL0 := Lib.hid hL0
  have H00 := Lib.hid h0
  have HR := Lib.hid hroot
  have hz : ((L + 1 : Nat) : Int) - 1 = (L : Int) := by omega
  have hz0 : (0 : Int) < ((L + 1 : Nat) : Int) := by omega
  have hz1 : IntKind.i64.wrap (((L + 1 : Nat) : Int) - 1) = (L : Int) := by rw [hz]; exact IntWalk.i64_in _ (by omega)
  clear h hmem h0 hroot hL hL0 hb
  go_enter Try.func35, Try.ntmps35
  go_wp2
  go_quiet (fail)
  have h1 := H.out.below (quietBelow ⟨nq, rfl⟩ _ : Below w.heap.size w (w.drewN nq))
  have ht1 : Touch m.foot w (w.drewN nq) := Touch.quiet ⟨nq, rfl⟩ _
  generalize w.drewN nq = w1 at *
  have H1 := Lib.hid h1
  have HT1 := Lib.hid ht1
  have K1 : Calls Try.prog 40 #[.pointer (some ⟨m.gb, 0, none⟩), .int .i64 0, .int .i64 (L : Int)] w1 fun x w' => x = .returned (.tuple #[]) ∧ QR T m (Q.swap 0 L) w' ∧ Touch m.foot w1 w' ∧ w'.heap.size = w1.heap.size := swap_is h1.q h1.ok H00.out HL0.out
  have K9 := Lib.hid K1
  clear K1 h1 ht1 c2 t0 hz hz0 hz1
  go_wp2_with (first | (go_at_call 40; refine K9.out.mono ?_; rintro e' w2 ⟨rfl, hq, ht, _⟩; obtain ⟨c2, f2, r2, r3, c3, a1, a2, a3, ⟨x, p1⟩, fp, K3⟩ := popped H.out HL.out HR.out hq; have HT2 := Lib.hid (HT1.out.trans ht); clear hq ht) | (go_at_call 41; refine K3.out.mono ?_; rintro e' w' ⟨rfl, hd⟩))
  have HT3 : Hid (Touch m.foot w ((w2.setCell ⟨m.gb, 2, none⟩ (.slice (some ⟨m.tb, 0, none⟩) L m.tc)).setCell ⟨m.pb, e, none⟩ (.int .i64 (-1)))) := (HT2.out.trans (Touch.setCell _ (by simp [Mq.foot]))).trans (Touch.setCell _ (by simp [Mq.foot]))
  have HD : Hid (After T m Q.n Q.act (fun f => f ∈ Q.tree ∧ f ≠ e) w w') := hd.after (m0 := m) rfl rfl (fun f => by
    have hsl : (Q.swap 0 L).tree.length = L + 1 := by rw [Qs.swap_len]; exact HL.out
    rw [Qs.drop_mem (H1.out.ok.swap H00.out HL0.out) (by rw [hsl]; omega) (by rw [hsl, Nat.add_sub_cancel, Qs.swap_at H00.out HL0.out, if_pos rfl, HR.out]), Qs.swap_mem H00.out HL0.out]) rfl HT3.out rfl (fun b hb => .inl hb)
  clear hd
  go_ret
  exact ⟨rfl, HD.out⟩
end
end Go.Proofs.Ytfighepopmaimaa
