/-
  Layer 5's laws: what is implied of itself; append at a step of a region that draws its order.
-/
import Derived.Test.YtbljkbdbiceokaaRupS
import Derived.Deep.AppendLies
namespace Go.Proofs.Ytbljkbdbiceokaa
open Go.RowKit Go.Lib
open Go.RowKit (Below)

theorem fails_sub {F : List (List Int)} {z c : List Int} (hz : z ∈ F) (hs : ∀ x ∈ z, x ∈ c) : Fails F (negs c) := by
  have hd : ∀ x ∈ z, Der F (negs c) (-x) := fun x hx => .assume (mem_negs.2 (by rw [Int.neg_neg]; exact hs x hx))
  cases z with
  | nil => exact .inl hz
  | cons x l => exact .inr ⟨x, .unit hz List.mem_cons_self (fun y hy _ => hd y hy), hd x List.mem_cons_self⟩
theorem fails_taut (F : List (List Int)) {c : List Int} {x : Int} (h1 : x ∈ c) (h2 : -x ∈ c) : Fails F (negs c) :=
  .inr ⟨x, .assume (mem_negs.2 h2), .assume (mem_negs.2 (by rw [Int.neg_neg]; exact h1))⟩
theorem InV.append {V : Nat} {y z : List Int} (h : InV V y) (g : InV V z) : InV V (y ++ z) := fun x hx => by
  rcases List.mem_append.1 hx with hx | hx
  · exact h x hx
  · exact g x hx

theorem run_append_any {P : Program} {w : World} (base : Nat) (t ty e : TypeId) (i : TypeInfo) (z : Value) (ht : P.underlying t = some (.slice e)) (hi : P.info? e = some i) (hz : i.zero = some z)
    (hsize : i.size = 1) (hby : i.bytes = 8) (hzs : z.cells.size = 1)
    (v : Value) (n : Nat) (xs : List Value) (hown : w.ownsRow base e 1 v n xs)
    (ad : Option Addr) (m c : Nat) (zs : List Int) (hl : zs.length = m) (hI : IntsR w ad zs)
    (h63 : n + m ≤ maxLen) (hbytes : (n + m) * 8 ≤ 140737488355328) (hbase : base ≤ w.heap.size) :
    ∃ v' w', (Builtin.append_ #[t, t] ty #[v, .slice ad m c]).run P w = .ok v' w' ∧ w'.ownsRow base e 1 v' (n + m) (xs ++ zs.map (Value.int .i64)) ∧ w.grownBy w' v.ownBlock := by
  cases ad with
  | none =>
    have h0 : m = 0 := by
      rcases hI with h | ⟨b, off, h, _⟩
      · omega
      · cases h
    subst h0
    have hz0 : zs = [] := List.length_eq_zero_iff.1 hl
    subst hz0
    exact ⟨v, w, run_append_zero base t ty e i 1 ht hi v n c xs hown, by simpa using hown, ⟨rfl, rfl, rfl, Nat.le_refl _, fun _ _ _ => rfl⟩⟩
  | some p =>
    have hnews : ∀ (j : Nat) (u : Value), (zs.map (Value.int .i64))[j]? = some u → w.cell? (p.add j) = some u := fun j u hj => by
      rw [List.getElem?_map] at hj
      have hlt : j < zs.length := by
        cases hq : zs[j]? with
        | none => rw [hq] at hj; cases hj
        | some y => exact (List.getElem?_eq_some_iff.1 hq).1
      rcases hI with h | ⟨b, off, hp, _, hc⟩
      · omega
      · injection hp with hp
        rw [hp, Addr.add_lit, hc j hlt]
        rw [getD_some zs 0 j hlt] at hj
        simpa using hj
    have hone : ∀ u ∈ zs.map (Value.int .i64), u.oneCell' = true := fun u hu => by
      obtain ⟨y, _, rfl⟩ := List.mem_map.1 hu
      rfl
    obtain ⟨v', w', hr, h2, h3, _, _⟩ := run_append_own_at (P := P) (w := w) base t ty e i z 1 8 ht hi hz hsize hby hzs (by decide) v n xs hown p m c (zs.map (Value.int .i64)) (by simp [hl]) hnews hone h63 hbytes hbase
    exact ⟨v', w', hr, h2, h3⟩
theorem step_append_any {P : Program} {w : World} {ops : Array Oper} {o : Oper} {a : Act} {K : Act → World → Prop} {Q : Exit → Act → World → Prop} {E : Prop} (hgd : o.guard = none) (s x : Operand) (t : TypeId)
    (ho : o.op = .call { callee := .builtin .append, args := #[s, x], argTypes := #[t, t] })
    (base : Nat) (e : TypeId) (i : TypeInfo) (z : Value) (ht : P.underlying t = some (.slice e)) (hi : P.info? e = some i) (hz : i.zero = some z)
    (hsize : i.size = 1) (hby : i.bytes = 8) (hzs : z.cells.size = 1)
    (v : Value) (n : Nat) (xs : List Value) (hs : a.eval s = v) (hown : w.ownsRow base e 1 v n xs)
    (ad : Option Addr) (m c : Nat) (zs : List Int) (hx : a.eval x = .slice ad m c) (hl : zs.length = m) (hI : IntsR w ad zs)
    (h63 : n + m ≤ maxLen) (hbytes : (n + m) * 8 ≤ 140737488355328) (hbase : base ≤ w.heap.size)
    (h : ∀ v' w', w'.ownsRow base e 1 v' (n + m) (xs ++ zs.map (Value.int .i64)) → w.grownBy w' v.ownBlock → K (a.put o.dst v') w') :
    if Region.wanted o (yielded ops a.tmps) = true then Oper.wp P o a w K Q else E := by
  have hw : Region.wanted o (yielded ops a.tmps) = true := by simp [Region.wanted, hgd]
  rw [if_pos hw]
  obtain ⟨v', w', hr, h2, h3⟩ := run_append_any (P := P) (w := w) base t o.type e i z ht hi hz hsize hby hzs v n xs hown ad m c zs hl hI h63 hbytes hbase
  unfold Oper.wp execOp
  simp only [ho, resolve, invoke, builtin, Sem.run_bind, Sem.run_pure, Result.andThen_ok, List.map_toArray, List.map_cons, List.map_nil, hs, hx, hr]
  exact h v' w' h2 h3
end Go.Proofs.Ytbljkbdbiceokaa
