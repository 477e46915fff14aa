/-
  A formula with rows of its own and of another one; the same clauses in another order.
-/
import Derived.Test.YtbljkbdbiceokaaPropU
import Derived.Maps.AppendAt
import Derived.Laws.OwnMore
namespace Go.Proofs.Ytbljkbdbiceokaa
open Go.RowKit Go.Lib
open Go.RowKit (Below)

/-! Plain. -/
def Good (L G : List (List Int)) (k : Nat) : Prop := (∀ c ∈ G, ∃ c' ∈ L, ∀ x, x ∈ c ↔ x ∈ c') ∧ (∀ (j : Nat) (c : List Int), k ≤ j → L[j]? = some c → ∃ c' ∈ G, ∀ x, x ∈ c ↔ x ∈ c') ∧ G.length + 2 * k ≤ 2 * L.length ∧ ∀ c ∈ G, c.length ≤ 40
theorem Good.first (L : List (List Int)) : Good L [] L.length := ⟨by simp, fun j c h hj => by have := (List.getElem?_eq_some_iff.1 hj).1; omega, by simp, by simp⟩
theorem Good.turned {L G : List (List Int)} {m : Nat} {z C : List Int} (h : Good L G (m + 1)) (hz : L[m]? = some z) (hl : z.length ≤ 20) (hC : C.length = z.length) (hs : ∀ x ∈ C, x ∈ z) : Good L (G ++ [C ++ z]) m ∧ Good L (G ++ [C ++ z] ++ [z]) m := by
  obtain ⟨h1, h2, h3, h4⟩ := h
  have hm := List.mem_of_getElem? hz
  have hset : ∀ x, x ∈ C ++ z ↔ x ∈ z := fun x => by
    rw [List.mem_append]; exact ⟨fun h => h.elim (hs x) id, .inr⟩
  have a1 : Good L (G ++ [C ++ z]) m := by
    refine ⟨fun c hc => ?_, fun j c hj hc => ?_, by simp; omega, fun c hc => ?_⟩
    · rcases List.mem_append.1 hc with hc | hc
      · exact h1 c hc
      · rw [List.mem_singleton] at hc; rw [hc]; exact ⟨z, hm, hset⟩
    · by_cases e : j = m
      · subst e; rw [hz] at hc; cases hc
        exact ⟨C ++ z, by simp, fun x => (hset x).symm⟩
      · obtain ⟨c', hc', hx⟩ := h2 j c (by omega) hc
        exact ⟨c', List.mem_append_left _ hc', hx⟩
    · rcases List.mem_append.1 hc with hc | hc
      · exact h4 c hc
      · rw [List.mem_singleton] at hc; rw [hc, List.length_append]; omega
  refine ⟨a1, ?_⟩
  obtain ⟨b1, b2, b3, b4⟩ := a1
  refine ⟨fun c hc => ?_, fun j c hj hc => ?_, by simp; omega, fun c hc => ?_⟩
  · rcases List.mem_append.1 hc with hc | hc
    · exact b1 c hc
    · rw [List.mem_singleton] at hc; rw [hc]; exact ⟨z, hm, fun x => Iff.rfl⟩
  · obtain ⟨c', hc', hx⟩ := b2 j c hj hc
    exact ⟨c', List.mem_append_left _ hc', hx⟩
  · rcases List.mem_append.1 hc with hc | hc
    · exact b4 c hc
    · rw [List.mem_singleton] at hc; rw [hc]; omega
theorem Good.allLen {L G : List (List Int)} {k : Nat} (h : Good L G k) : AllLen G := fun z hz => by have := h.2.2.2 z hz; unfold maxLen; omega
theorem Good.range {L G : List (List Int)} {k : Nat} {V : Nat} (h : Good L G k) (hr : ∀ z ∈ L, ∀ x ∈ z, -(V : Int) ≤ x ∧ x ≤ V ∧ x ≠ 0) : ∀ z ∈ G, ∀ x ∈ z, -(V : Int) ≤ x ∧ x ≤ V ∧ x ≠ 0 := fun z hz x hx => by
  obtain ⟨c, hc, hs⟩ := h.1 z hz
  exact hr c hc x ((hs x).1 hx)
theorem small_bad {V : Nat} (hV : V ≤ 12) {c : List Int} (hr : ∀ x ∈ c, -(V : Int) ≤ x ∧ x ≤ V ∧ x ≠ 0) : c.any (badB V) = false := by
  rw [List.any_eq_false]
  intro x hx
  obtain ⟨g1, g2, g3⟩ := hr x hx
  have : badB V x = false := by
    unfold badB
    rw [Bool.or_eq_false_iff, beq_eq_false_iff_ne, decide_eq_false_iff_not, au_abs x (by omega) (by omega)]
    refine ⟨g3, ?_⟩
    split <;> omega
  rw [this]; simp
theorem Good.check {L G : List (List Int)} {V : Nat} (hV : V ≤ 12) (h : Good L G 0) (hL : L.length ≤ 30) (hr : ∀ z ∈ L, ∀ x ∈ z, -(V : Int) ≤ x ∧ x ≤ V ∧ x ≠ 0) {ys : List Int} (hy : ∀ x ∈ ys, -(V : Int) ≤ x ∧ x ≤ V ∧ x ≠ 0) : checkP V G ys = 0 := by
  have hc : checkF V G = 0 := by
    rw [checkF_in (by omega) (by have := h.2.2.1; omega)]
    exact errs_zero fun z hz => checkI_ok _ _ (by omega) (by omega) (by have := h.2.2.2 z hz; omega) (small_bad hV (h.range hr z hz))
  unfold checkP
  rw [hc, if_neg (by simp), small_bad hV hy]; rfl

/-- What Units answers, in one form. -/
def OneRes (V : Nat) (L : List (List Int)) (xs u : List Int) (ff : Bool) : Prop := (ff = true ∧ Fails L xs ∧ u = []) ∨ (ff = false ∧ Follows V L xs u)
theorem OneRes.same {V : Nat} {L G : List (List Int)} {xs ys u v : List Int} {ff gg : Bool} (h1 : OneRes V L xs u ff) (h2 : OneRes V G ys v gg) (hg : Good L G 0) (hy : ∀ x, x ∈ xs ↔ x ∈ ys) : v = u ∧ gg = ff := by
  have LG : ∀ c ∈ L, ∃ c' ∈ G, ∀ x, x ∈ c ↔ x ∈ c' := fun c hc => by
    obtain ⟨j, hj⟩ := List.mem_iff_getElem?.1 hc
    exact hg.2.1 j c (Nat.zero_le _) hj
  have D : ∀ x, Der L xs x ↔ Der G ys x := fun x => ⟨fun h => h.same LG fun y hy' => (hy y).1 hy', fun h => h.same hg.1 fun y hy' => (hy y).2 hy'⟩
  have F : Fails L xs ↔ Fails G ys := ⟨fun h => h.same LG fun y hy' => (hy y).1 hy', fun h => h.same hg.1 fun y hy' => (hy y).2 hy'⟩
  rcases h1 with ⟨rfl, hf, rfl⟩ | ⟨rfl, hf⟩ <;> rcases h2 with ⟨rfl, hg2, rfl⟩ | ⟨rfl, hg2⟩
  · exact ⟨rfl, rfl⟩
  · exact absurd (F.1 hf) hg2.1
  · exact absurd (F.2 hg2) hf.1
  · refine ⟨?_, rfl⟩
    obtain ⟨a0, k, a1, a2, a3, a4, a5⟩ := hf
    exact follows_unique hg2 ⟨fun h => a0 (F.2 h), k, a1, a2, a3, a4, fun x => (a5 x).trans (D x)⟩

/-! Memory. -/
def MixRow (w : World) (F : Nat) (v u : Value) (z : List Int) : Prop := ∃ a c, u = .slice a z.length c ∧ IntsR w a z ∧ (z.length ≠ 0 → ∀ p, a = some p → p.block < w.heap.size ∧ p.block ≠ F ∧ v.ownBlock ≠ some p.block) ∧ z.length ≤ c ∧ c ≤ maxLen
theorem MixRow.stays {w w' : World} {F : Nat} {v v' u : Value} {z : List Int} (h : MixRow w F v u z) (hs : w.heap.size ≤ w'.heap.size) (hb : ∀ k, k < w.heap.size → k ≠ F → v.ownBlock ≠ some k → w'.heap[k]? = w.heap[k]? ∧ v'.ownBlock ≠ some k) : MixRow w' F v' u z := by
  obtain ⟨a, c, hu, hi, hp, hcc⟩ := h
  by_cases h0 : z.length = 0
  · exact ⟨a, c, hu, .inl h0, fun h => absurd h0 h, hcc⟩
  · refine ⟨a, c, hu, hi.stays hs (fun p hp' => ?_), (fun _ p hp' => ?_), hcc⟩
    · obtain ⟨h1, h2, h3⟩ := hp h0 p hp'; exact (hb _ h1 h2 h3).1
    · obtain ⟨h1, h2, h3⟩ := hp h0 p hp'; exact ⟨by omega, h2, (hb _ h1 h2 h3).2⟩
structure MixAt (wS wr : World) (V : Int) (v : Value) (G : List (List Int)) : Prop where
  f : Two wr wS.heap.size (.int .i64 V) v
  mix : ∃ vs : List Value, wr.ownsRow (wS.heap.size + 1) 23 1 v G.length vs ∧ ∀ (j : Nat) (z : List Int), G[j]? = some z → ∃ u : Value, vs[j]? = some u ∧ MixRow wr wS.heap.size v u z
  below : Below wS.heap.size wS wr
  size : wS.heap.size + 1 ≤ wr.heap.size
theorem MixAt.first {wS wr : World} {V : Int} (hf : Two wr wS.heap.size (.int .i64 V) (.slice none 0 0)) (hb : Below wS.heap.size wS wr) : MixAt wS wr V (.slice none 0 0) [] :=
  ⟨hf, ⟨[], World.ownsRow_nil _ _ _ _, fun j z hz => by simp at hz⟩, hb, hf.lt⟩
theorem MixAt.on {wS wr w' : World} {V : Int} {v : Value} {G : List (List Int)} (h : MixAt wS wr V v G) (hb : Below wr.heap.size wr w') : MixAt wS w' V v G := by
  obtain ⟨hf, ⟨vs, h1, h2⟩, h3, h4⟩ := h
  refine ⟨hf.below hb (by omega), ⟨vs, ownsRow_stays h1 fun k _ hk => hb.block k hk, fun j z hz => ?_⟩, h3.trans (hb.mono h3.size), Nat.le_trans h4 hb.size⟩
  obtain ⟨u, hu, hm⟩ := h2 j z hz
  exact ⟨u, hu, hm.stays hb.size fun k hk _ hv => ⟨hb.block k hk, hv⟩⟩
theorem MixAt.rows {wS w : World} {V : Int} {v : Value} {zss : List (List Int)} (h : MixAt wS w V v zss) : ∃ a c, v = .slice a zss.length c ∧ RowsR .i64 w a zss := by
  obtain ⟨vs, ⟨hl, h1⟩, h2⟩ := h.mix
  rcases h1 with ⟨hv, h0⟩ | ⟨g, cap, cur, hv, hg, hh, hn, hc, hsz, ht⟩
  · exact ⟨none, 0, by rw [h0]; exact hv, .inl h0⟩
  · refine ⟨some ⟨g, 0, none⟩, cap, hv, .inr ⟨g, 0, rfl, (Array.getElem?_eq_some_iff.1 hh).1, fun j hj => ?_⟩⟩
    obtain ⟨u, hu, a, c, rfl, hi, _, hcc⟩ := h2 j _ (getD_some zss [] j hj)
    refine ⟨a, c, ?_, hi, hcc⟩
    have h3 := congrArg (fun l : List Value => l[j]?) ht
    simp only [List.getElem?_take] at h3
    rw [if_pos (by omega), hu] at h3
    simp only [World.cell?, hh, Nat.zero_add]
    simp only [Array.getElem?_toList] at h3
    simp [h3]
theorem MixAt.next {wS wr : World} {V : Int} {v : Value} {G : List (List Int)} (h : MixAt wS wr V v G) : ∃ vs : List Value, wr.ownsRow (wS.heap.size + 1) 23 1 v G.length vs ∧
    ∀ (w0 w1 : World) (v' : Value) (a1 : Option Addr) (d1 : Nat) (z : List Int), Below wr.heap.size wr w0 → w0.grownBy w1 v.ownBlock → (v'.ownBlock = v.ownBlock ∨ ∃ k, v'.ownBlock = some k ∧ wr.heap.size ≤ k) → w1.ownsRow (wS.heap.size + 1) 23 1 v' (G.length + 1) (vs ++ [.slice a1 z.length d1]) →
      IntsR wr a1 z → (z.length ≠ 0 → ∀ p, a1 = some p → p.block < wr.heap.size ∧ p.block ≠ wS.heap.size ∧ v.ownBlock ≠ some p.block) → z.length ≤ d1 ∧ d1 ≤ maxLen →
      MixAt wS (w1.setCell ⟨wS.heap.size, 1, none⟩ v') V v' (G ++ [z]) ∧ Two w1 wS.heap.size (.int .i64 V) v := by
  obtain ⟨hf, ⟨vs, h1, h2⟩, h3, h4⟩ := h
  refine ⟨vs, h1, fun w0 w1 v' a1 d1 z hw hg hat hown hi hp hcc => ?_⟩
  have hvl : vs.length = G.length := by have := h1.1; omega
  have hlo : ∀ k, v.ownBlock = some k → wS.heap.size + 1 ≤ k ∧ k < wr.heap.size := fun k hk => World.ownsRow.lt h1 k hk
  have hvF : v.ownBlock ≠ some wS.heap.size := fun e => by have := (hlo _ e).1; omega
  have hsz : wr.heap.size ≤ w1.heap.size := Nat.le_trans hw.size hg.size
  have hsz' : wr.heap.size ≤ (w1.setCell ⟨wS.heap.size, 1, none⟩ v').heap.size := by simpa using hsz
  have hF1 : Two w1 wS.heap.size (.int .i64 V) v := (hf.below hw (by omega)).grown hg hvF
  have hst : ∀ k, k < wr.heap.size → v.ownBlock ≠ some k → w1.heap[k]? = wr.heap[k]? := fun k hk hv => (hg.block k (Nat.lt_of_lt_of_le hk hw.size) (fun e => hv e.symm)).trans (hw.block k hk)
  have hst' : ∀ k, k < wr.heap.size → k ≠ wS.heap.size → v.ownBlock ≠ some k → (w1.setCell ⟨wS.heap.size, 1, none⟩ v').heap[k]? = wr.heap[k]? := fun k hk hF hv => (Below.heap_setCell w1 ⟨wS.heap.size, 1, none⟩ v' k hF).trans (hst k hk hv)
  have hne : ∀ k, k < wr.heap.size → v.ownBlock ≠ some k → v'.ownBlock ≠ some k := by
    intro k hk hv
    rcases hat with h | ⟨q, h, hq⟩
    · rw [h]; exact hv
    · rw [h]; intro e; injection e with e; omega
  refine ⟨⟨hF1.set1 v', ⟨vs ++ [.slice a1 z.length d1], ?_, fun j y hy => ?_⟩, ?_, by simp; omega⟩, hF1⟩
  · rw [List.length_append]
    exact ownsRow_stays hown fun k hk _ => Below.heap_setCell w1 ⟨wS.heap.size, 1, none⟩ v' k (by simp; omega)
  · by_cases hj : j < G.length
    · rw [List.getElem?_append_left hj] at hy
      obtain ⟨u, hu, hm⟩ := h2 j y hy
      exact ⟨u, by rw [List.getElem?_append_left (by omega)]; exact hu, hm.stays hsz' fun k hk hF hv => ⟨hst' k hk hF hv, hne k hk hv⟩⟩
    · have hje : j = G.length := by have := (List.getElem?_eq_some_iff.1 hy).1; simp at this; omega
      subst hje
      rw [List.getElem?_append_right (Nat.le_refl _), Nat.sub_self] at hy
      simp at hy
      subst hy
      have hm : MixRow wr wS.heap.size v (.slice a1 z.length d1) z := ⟨a1, d1, rfl, hi, hp, hcc⟩
      exact ⟨_, by rw [List.getElem?_append_right (by omega), hvl, Nat.sub_self]; rfl, hm.stays hsz' fun k hk hF hv => ⟨hst' k hk hF hv, hne k hk hv⟩⟩
  · have hb1 : Below wS.heap.size wS w1 := (h3.trans (hw.mono h3.size)).grown hg (by have := hw.size; omega) (fun k hk => by have := (hlo k hk).1; omega)
    exact hb1.setCell (p := ⟨wS.heap.size, 1, none⟩) (by simp) _

/-- Appending what may be nothing at all. -/
theorem run_append_zero {P : Program} {w : World} (base : Nat) (t ty e : TypeId) (i : TypeInfo) (size : Nat) (ht : P.underlying t = some (.slice e)) (hi : P.info? e = some i)
    (v : Value) (n c : Nat) (xs : List Value) (hown : w.ownsRow base e size v n xs) : (Builtin.append_ #[t, t] ty #[v, .slice none 0 c]).run P w = .ok v w := by
  rcases hown.2 with ⟨rfl, rfl⟩ | ⟨g, cap, cur, rfl, _, _, hnc, _⟩
  · simp [Builtin.append_, run_underlying ht, sizeOf, typeInfo, hi, Builtin.lenOf, Builtin.firstCells]
  · simp [Builtin.append_, run_underlying ht, sizeOf, typeInfo, hi, Builtin.lenOf, Builtin.firstCells, hnc, storeCells]
theorem wpList_append_ints {P : Program} {w : World} {ops : Array Oper} {rest : List Oper} {o : Oper} {a : Act} {Q : Exit → Act → World → Prop} (hgd : o.guard = none) (s x : Operand) (t : TypeId)
    (ho : o.op = .call { callee := .builtin .append, args := #[s, x], argTypes := #[t, t] })
    (base : Nat) (e : TypeId) (i : TypeInfo) (z : Value) (ht : P.underlying t = some (.slice e)) (hi : P.info? e = some i) (hz : i.zero = some z)
    (hsize : i.size = 1) (hby : i.bytes = 8) (hzs : z.cells.size = 1)
    (v : Value) (n : Nat) (xs : List Value) (hs : a.eval s = v) (hown : w.ownsRow base e 1 v n xs)
    (ad : Option Addr) (m c : Nat) (zs : List Int) (hx : a.eval x = .slice ad m c) (hl : zs.length = m) (hI : IntsR w ad zs)
    (h63 : n + m ≤ maxLen) (hbytes : (n + m) * 8 ≤ 140737488355328) (hbase : base ≤ w.heap.size)
    (h : ∀ v' w', w'.ownsRow base e 1 v' (n + m) (xs ++ zs.map (Value.int .i64)) → w.grownBy w' v.ownBlock → wpList P ops Q rest (a.put o.dst v') w') :
    wpList P ops Q (o :: rest) a w := by
  cases ad with
  | none =>
    have h0 : m = 0 := by
      rcases hI with h | ⟨b, off, h, _⟩
      · omega
      · cases h
    subst h0
    have hz0 : zs = [] := List.length_eq_zero_iff.1 hl
    subst hz0
    refine wpList_plain hgd fun K hK => ?_
    have hrun := run_append_zero (P := P) (w := w) base t o.type e i 1 ht hi v n c xs hown
    unfold Oper.wp
    simp [execOp, ho, resolve, invoke, builtin, hs, hx, hrun, Result.andThen]
    exact hK _ _ (h v w (by simpa using hown) ⟨rfl, rfl, rfl, Nat.le_refl _, fun _ _ _ => rfl⟩)
  | some p =>
    refine wpList_append_own _ hgd s x t ho base e i z 1 8 ht hi hz hsize hby hzs (by decide) v n xs hs hown p m c (zs.map (Value.int .i64)) hx (by simp [hl]) (fun j u hj => ?_) (fun u hu => ?_) h63 hbytes hbase fun v' w' h1 h2 _ => h v' w' h1 h2
    · rw [List.getElem?_map] at hj
      have hlt : j < zs.length := by
        cases hq : zs[j]? with
        | none => rw [hq] at hj; cases hj
        | some y => exact (List.getElem?_eq_some_iff.1 hq).1
      rcases hI with h | ⟨b, off, hp, _, hc⟩
      · omega
      · injection hp with hp
        rw [hp, Addr.add_lit, hc j hlt]
        rw [getD_some zs 0 j hlt] at hj
        simpa using hj
    · obtain ⟨y, _, rfl⟩ := List.mem_map.1 hu
      rfl

/-- What Units answers when nothing is refused. -/
theorem unitsRes {V : Nat} (hV : V ≤ 12) {L : List (List Int)} {xs : List Int} {a : Option Addr} {c : Nat} {xa : Option Addr} {xc : Nat} {w : World} (hm : L.length ≤ maxLen) (hA : AllLen L) (hR : RowsR .i64 w a L) (hX : IntsR w xa xs) (hxl : xs.length ≤ maxLen)
    (hz : ∀ z ∈ L, ∀ x ∈ z, Rng x) (hxr : ∀ x ∈ xs, Rng x) (hc : checkP V L xs = 0) {l kx : Nat} (hll : L.length = l) (hk : xs.length = kx) :
    Calls Try.prog 28 #[.agg #[.int .i64 V, .slice a l c], .slice xa kx xc] w fun e w' => Below w.heap.size w w' ∧ ∃ ua uc u ff, e = .returned (.tuple #[.slice ua u.length uc, .bool ff, .int .i64 0]) ∧ IntsR w' ua u ∧ u.length ≤ V ∧ OneRes V L xs u ff := by
  subst hll hk
  refine (units_any a c xa xc w (by omega) hm hA hR hX hxl hz hxr).mono ?_
  rintro e w' ⟨hB, h⟩
  refine ⟨hB, ?_⟩
  rcases h with ⟨h, _⟩ | ⟨_, h, rfl⟩ | ⟨_, v, u, h, rfl, hO⟩
  · exact absurd hc h
  · exact ⟨none, 0, [], true, rfl, .inl rfl, Nat.zero_le _, .inl ⟨rfl, h, rfl⟩⟩
  · obtain ⟨ua, uc, rfl, hU⟩ := hO.reads
    exact ⟨ua, uc, u, false, rfl, hU, (follows_order h).2.2, .inr ⟨rfl, h⟩⟩
end Go.Proofs.Ytbljkbdbiceokaa
