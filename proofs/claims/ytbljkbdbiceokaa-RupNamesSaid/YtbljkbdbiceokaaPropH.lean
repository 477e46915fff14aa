/-
  replace: a clause is looked at.
-/
import Derived.Test.YtbljkbdbiceokaaPropG
namespace Go.Proofs.Ytbljkbdbiceokaa
open Go.RowKit Go.Lib
open Go.RowKit (Below)

section
variable {B : Nat} {m : Mm} {f : Int → Value} {N s r : Nat} {vs : List Value} {S : St} {w : World} {g L cap n : Nat} {e : Cl}
theorem PR.setA (h : PR B m f (.slice (some ⟨g, 0, none⟩) L cap) N s r vs S w) (hn : S.cls[n]? = some e) (u : Int) :
    PR B m f (.slice (some ⟨g, 0, none⟩) L cap) N s r (vs.set (n * 3) (.int .i64 u)) { S with cls := S.cls.set n ⟨u, e.b, e.rest⟩ } (w.setCell ⟨g, n * 3, none⟩ (.int .i64 u)) ∧ Below B w (w.setCell ⟨g, n * 3, none⟩ (.int .i64 u)) := by
  obtain ⟨a, c, h1, h2, h3, h4⟩ := h.cvs n e hn
  have hl := (List.getElem?_eq_some_iff.1 h1).1
  exact h.clSet (k := 0) (e' := ⟨u, e.b, e.rest⟩) hn (by omega) (.int .i64 u) (Nat.le_refl _) ⟨a, c, by rw [Nat.add_zero, List.getElem?_set_self hl], by rw [List.getElem?_set_ne (by omega)]; exact h2, by rw [List.getElem?_set_ne (by omega)]; exact h3, h4⟩
theorem PR.setB (h : PR B m f (.slice (some ⟨g, 0, none⟩) L cap) N s r vs S w) (hn : S.cls[n]? = some e) (u : Int) :
    PR B m f (.slice (some ⟨g, 0, none⟩) L cap) N s r (vs.set (n * 3 + 1) (.int .i64 u)) { S with cls := S.cls.set n ⟨e.a, u, e.rest⟩ } (w.setCell ⟨g, n * 3 + 1, none⟩ (.int .i64 u)) ∧ Below B w (w.setCell ⟨g, n * 3 + 1, none⟩ (.int .i64 u)) := by
  obtain ⟨a, c, h1, h2, h3, h4⟩ := h.cvs n e hn
  have hl := (List.getElem?_eq_some_iff.1 h2).1
  exact h.clSet (k := 1) (e' := ⟨e.a, u, e.rest⟩) hn (by omega) (.int .i64 u) (Nat.le_refl _) ⟨a, c, by rw [List.getElem?_set_ne (by omega)]; exact h1, by rw [List.getElem?_set_self hl], by rw [List.getElem?_set_ne (by omega)]; exact h3, h4⟩
theorem PR.setR (h : PR B m f (.slice (some ⟨g, 0, none⟩) L cap) N s r vs S w) (hn : S.cls[n]? = some e) {a : Option Addr} {c : Nat} {rest : List Int} (hl : rest.length ≤ e.rest.length) (hi : IntsR w a rest) (hp : ∀ p, a = some p → p.block < B ∧ p.block < w.heap.size) (hc : rest.length ≤ c) (hc2 : c ≤ maxLen) :
    PR B m f (.slice (some ⟨g, 0, none⟩) L cap) N s r (vs.set (n * 3 + 2) (.slice a rest.length c)) { S with cls := S.cls.set n ⟨e.a, e.b, rest⟩ } (w.setCell ⟨g, n * 3 + 2, none⟩ (.slice a rest.length c)) ∧ Below B w (w.setCell ⟨g, n * 3 + 2, none⟩ (.slice a rest.length c)) := by
  obtain ⟨a', c', h1, h2, h3, _⟩ := h.cvs n e hn
  have hl' := (List.getElem?_eq_some_iff.1 h3).1
  exact h.clSet (k := 2) (e' := ⟨e.a, e.b, rest⟩) hn (by omega) _ hl ⟨a, c, by rw [List.getElem?_set_ne (by omega)]; exact h1, by rw [List.getElem?_set_ne (by omega)]; exact h2, by rw [List.getElem?_set_self hl'], hi, hp, hc, hc2⟩
/-- What can be read of a clause. -/
theorem PR.cl (h : PR B m f (.slice (some ⟨g, 0, none⟩) L cap) N s r vs S w) (hn : S.cls[n]? = some e) :
    ∃ a c, w.cell? ⟨g, n * 3, none⟩ = some (.int .i64 e.a) ∧ w.cell? ⟨g, n * 3 + 1, none⟩ = some (.int .i64 e.b) ∧ w.cell? ⟨g, n * 3 + 2, none⟩ = some (.slice a e.rest.length c) ∧ IntsR w a e.rest ∧ (∀ p, a = some p → p.block < B ∧ p.block < w.heap.size) ∧ e.rest.length ≤ c ∧ c ≤ maxLen := by
  obtain ⟨a, c, h1, h2, h3, h4⟩ := h.cvs n e hn
  have hL : L = S.cls.length := by
    rcases h.cls.2 with ⟨h2, _⟩ | ⟨g', cap', cur, h2, _⟩
    · cases h2
    · cases h2; rfl
  subst hL
  exact ⟨a, c, rowCell h.cls h1, rowCell h.cls h2, rowCell h.cls h3, h4⟩
theorem PR.clFree (h : PR B m f (.slice (some ⟨g, 0, none⟩) L cap) N s r vs S w) (i : Nat) : w.frozen? ⟨g, i, none⟩ = false := by
  have hL : L = S.cls.length := by
    rcases h.cls.2 with ⟨h2, _⟩ | ⟨g', cap', cur, h2, _⟩
    · cases h2
    · cases h2; rfl
  subst hL
  exact rowFree h.cls i
theorem PR.cellAt {i : Nat} {v : Value} (h : PR B m f (.slice (some ⟨g, 0, none⟩) L cap) N s r (vs.set i v) S w) (hi : i < vs.length) : w.cell? ⟨g, i, none⟩ = some v := by
  have hL : L = S.cls.length := by
    rcases h.cls.2 with ⟨h2, _⟩ | ⟨g', cap', cur, h2, _⟩
    · cases h2
    · cases h2; rfl
  subst hL
  exact rowCell h.cls (by rw [List.getElem?_set_self hi])
end
theorem set_same (l : List Cl) (n : Nat) (e : Cl) (h : l[n]? = some e) : l.set n e = l := by
  induction l generalizing n with
  | nil => simp at h
  | cons x l ih =>
    cases n with
    | zero => simp at h; subst h; simp
    | succ n => simp at h; simp [ih n h]
theorem set_get (l : List Cl) (n : Nat) (e v : Cl) (h : l[n]? = some e) : (l.set n v)[n]? = some v := by
  rw [List.getElem?_set_self (List.getElem?_eq_some_iff.1 h).1]

theorem replaceS_some {S : St} {n : Nat} {x y : Int} {e t : Cl} {r : List Int} (hg : S.cls.getD n default = e) (ht : turnC e x = t) (hs : scanS S.known t.b t.rest = some (y, r)) :
    replaceS S n x = ({ S with cls := S.cls.set n ⟨y, t.b, r⟩, watch := upd S.watch y (S.watch y ++ [(n : Int)]) }, true) := by
  unfold replaceS; rw [hg]; simp only [ht, hs]
theorem replaceS_none {S : St} {n : Nat} {x : Int} {e t : Cl} (hg : S.cls.getD n default = e) (ht : turnC e x = t) (hs : scanS S.known t.b t.rest = none) :
    replaceS S n x = learnS { S with cls := S.cls.set n ⟨t.a, t.b, []⟩ } t.b := by
  unfold replaceS; rw [hg]; simp only [ht, hs]

/-- How long the slice is that lies there. -/
def lenAt (w : World) (p : Addr) : Nat := match w.cell? p with | some (.slice _ n _) => n | _ => 0
theorem lenAt_of {w : World} {p : Addr} {a : Option Addr} {n c : Nat} (h : w.cell? p = some (.slice a n c)) : lenAt w p = n := by unfold lenAt; rw [h]

set_option maxHeartbeats 1000000 in
theorem replace_any {B : Nat} {m : Mm} {f : Int → Value} {cv : Value} {N s r : Nat} {vs : List Value} {S : St} {w : World} (h : PR B m f cv N s r vs S w) {n : Nat} {x : Int} {e : Cl} (hn : S.cls[n]? = some e) (hx : kat S.known x = -x) (hok : ∀ y, y = e.a ∨ y = e.b ∨ y ∈ e.rest → y ≠ 0 ∧ y.natAbs ≤ m.n) (hnn : m.n ≤ 1000000)
    (hT2 : m.T ≤ 1000000000000) (hroom : ∀ y, y = e.a ∨ y = e.b → kat S.known y = 0 → S.queue.length < 2 * m.n) (hxr : x.natAbs ≤ 1000000) :
    Calls Try.prog 61 #[.pointer (some ⟨m.pb, 0, none⟩), .int .i64 n, .int .i64 x] w fun e w' => e = .returned (.bool (replaceS S n x).2) ∧
      (∃ f' N' s' vs', PR B m f' cv N' s' r vs' (replaceS S n x).1 w' ∧ ∀ l, kat S.known l = -l → f' l = f l) ∧ Below B w w' := by
  obtain ⟨ca, cc, hcv⟩ := cvForm h.cls
  have hlt : n < S.cls.length := (List.getElem?_eq_some_iff.1 hn).1
  obtain ⟨g, cap, hgc, _⟩ := h.cls.form (by omega)
  subst hgc
  clear hcv
  have c3 : w.cell? ⟨m.pb, 3, none⟩ = some (.slice (some ⟨g, 0, none⟩) S.cls.length cap) := h.blk.cell rfl
  obtain ⟨ra, rc, k0, k1, k2, _⟩ := h.cl hn
  have hn1 : (0 : Int) ≤ (n : Int) := by omega
  have hn2 : (n : Int) < (S.cls.length : Int) := by omega
  generalize ht : turnC e x = t
  have HP := Lib.hid h
  have HN := Lib.hid hn
  have fr0 := h.clFree (n * 3)
  have fr1 := h.clFree (n * 3 + 1)
  have HX := Lib.hid hx
  have HOK := Lib.hid hok
  have HNN := Lib.hid hnn
  have HT2 := Lib.hid hT2
  have HR := Lib.hid hroom
  have HXR := Lib.hid hxr
  have HTT := Lib.hid ht
  have HGET : Hid (S.cls.getD n default = e) := by unfold Hid; rw [List.getD_eq_getElem?_getD, hn]; rfl
  have HT0 : Hid (e.a = x → t = e) := fun h => by rw [← ht]; unfold turnC; rw [if_pos h]
  have HT1 : Hid (e.a ≠ x → t = ⟨e.b, e.a, e.rest⟩) := fun h => by rw [← ht]; unfold turnC; rw [if_neg h]
  clear h hn hx hok hnn hT2 hroom hxr ht hlt k2
  go_enter Try.func61, Try.ntmps61
  go_upto_if 22 with fail
  go_cut [] from 22 to 40 (fun wc => Hid (∃ vs', PR B m f (.slice (some ⟨g, 0, none⟩) S.cls.length cap) N s r vs' { S with cls := S.cls.set n t } wc) ∧ Hid (Below B w wc))
  case first =>
    by_cases hab : e.a = x
    · have e1 : (e.a != x) = false := by simp [hab]
      have HAB := Lib.hid hab
      clear hab
      go_wp2
      go_meet
      refine ⟨⟨vs, ?_⟩, Below.refl _ _⟩
      rw [HT0.out HAB.out, set_same _ _ _ HN.out]
      exact HP.out
    · have e1 : (e.a != x) = true := by simp [hab]
      have HAB := Lib.hid hab
      clear hab
      have HSW : Hid ((∃ vs', PR B m f (.slice (some ⟨g, 0, none⟩) S.cls.length cap) N s r vs' { S with cls := S.cls.set n t } ((w.drew.setCell ⟨g, n * 3, none⟩ (.int .i64 e.b)).setCell ⟨g, n * 3 + 1, none⟩ (.int .i64 e.a))) ∧ Below B w ((w.drew.setCell ⟨g, n * 3, none⟩ (.int .i64 e.b)).setCell ⟨g, n * 3 + 1, none⟩ (.int .i64 e.a))) := by
        have h0 := HP.out.below (w' := w.drew) ((Below.refl _ _).drew)
        have h1 := h0.setA HN.out e.b
        have h2 := h1.1.setB (set_get _ _ _ _ HN.out) e.a
        rw [HT1.out HAB.out]
        refine ⟨⟨(vs.set (n * 3) (.int .i64 e.b)).set (n * 3 + 1) (.int .i64 e.a), ?_⟩, (((Below.refl B w).drew).trans h1.2).trans h2.2⟩
        have h3 := h2.1
        simp only [List.set_set] at h3
        exact h3
      go_wp2
      go_region_law (fail)
      all_goals (go_wp2_with fail; go_meet; exact HSW.out)
  case rest =>
    obtain ⟨wb, hwb⟩ : ∃ wb : World, wb = wc := ⟨wc, rfl⟩
    subst hwb
    obtain ⟨HPE, HB⟩ := hcut
    obtain ⟨vs1, HP1⟩ := HPE.out
    generalize hS1 : ({ S with cls := S.cls.set n t } : St) = S1 at HP1
    have HN1 : Hid (S1.cls[n]? = some t) := by unfold Hid; rw [← hS1]; exact set_get _ _ _ _ HN.out
    have HK1 : Hid (S1.known = S.known ∧ S1.queue = S.queue ∧ S1.watch = S.watch ∧ S1.cls = S.cls.set n t) := by unfold Hid; rw [← hS1]; exact ⟨rfl, rfl, rfl, rfl⟩
    have HP2 := Lib.hid HP1
    obtain ⟨ra1, rc1, k0, k1, k2, _⟩ := HP1.cl HN1.out
    have HPS : Hid (PR B m f (.slice (some ⟨g, 0, none⟩) S.cls.length cap) N s r vs1 { S with cls := S.cls.set n ⟨t.a, t.b, t.rest⟩ } wb) := by unfold Hid; rw [hS1]; exact HP1
    have HOKT : Hid (∀ y, y = t.a ∨ y = t.b ∨ y ∈ t.rest → y ≠ 0 ∧ y.natAbs ≤ m.n) := by
      intro y hy
      by_cases hab : e.a = x
      · rw [HT0.out hab] at hy; exact HOK.out y hy
      · rw [HT1.out hab] at hy; exact HOK.out y (by rcases hy with h | h | h; exact .inr (.inl h); exact .inl h; exact .inr (.inr h))
    have HRT : Hid (kat S.known t.b = 0 → S.queue.length < 2 * m.n) := by
      by_cases hab : e.a = x
      · rw [HT0.out hab]; exact HR.out _ (.inr rfl)
      · rw [HT1.out hab]; exact HR.out _ (.inl rfl)
    have HTS : Hid (∀ y r, scanS S.known t.b t.rest = some (y, r) → replaceS S n x = ({ S with cls := S.cls.set n ⟨y, t.b, r⟩, watch := upd S.watch y (S.watch y ++ [(n : Int)]) }, true)) := fun y r h => replaceS_some HGET.out HTT.out h
    have HTN : Hid (scanS S.known t.b t.rest = none → replaceS S n x = learnS { S with cls := S.cls.set n ⟨t.a, t.b, []⟩ } t.b) := fun h => replaceS_none HGET.out HTT.out h
    clear HPE HP1 HT0 HT1 HR HP hS1 HTT HGET k0 k2
    go_wp2
    go_loopw [9] (fun yv wr => ∃ (rest : List Int) (vs' : List Value), Hid (PR B m f (.slice (some ⟨g, 0, none⟩) S.cls.length cap) N s r vs' { S with cls := S.cls.set n ⟨t.a, t.b, rest⟩ } wr) ∧ Hid (Below B w wr) ∧ Hid (∃ p, t.rest = p ++ rest ∧ scanS S.known t.b t.rest = scanS S.known t.b rest)) (fun yv wr => lenAt wr ⟨g, n * 3 + 2, none⟩)
    case atStart => exact ⟨t.rest, vs1, HPS, HB, ⟨[], rfl, rfl⟩⟩
    case round =>
      obtain ⟨rest, vs2, HP3, HB3, HS3⟩ := hrel
      obtain ⟨S2, hS2⟩ : ∃ S2 : St, ({ S with cls := S.cls.set n ⟨t.a, t.b, rest⟩ } : St) = S2 := ⟨_, rfl⟩
      have HN3 : Hid (S2.cls[n]? = some ⟨t.a, t.b, rest⟩) := by unfold Hid; rw [← hS2]; exact set_get _ _ _ _ HN.out
      have HS2 := Lib.hid hS2
      have HP4 : Hid (PR B m f (.slice (some ⟨g, 0, none⟩) S.cls.length cap) N s r vs2 S2 wr) := by unfold Hid; rw [← hS2]; exact HP3.out
      obtain ⟨ra2, rc2, q0, q1, q2, qi, qp, ql, qm⟩ := HP4.out.cl HN3.out
      dsimp only at q0 q1 q2 qi ql
      have HL := Lib.hid (lenAt_of q2)
      have fq0 := HP4.out.clFree (n * 3)
      have fq2 := HP4.out.clFree (n * 3 + 2)
      clear hS2 HP3
      cases hrs : rest with
      | cons y rs =>
        subst hrs
        obtain ⟨rest, hrest⟩ : ∃ rest, y :: rs = rest := ⟨_, rfl⟩
        rw [hrest] at q2 qi ql HL HN3 HS2 HS3
        have hlt : 0 < rest.length := by rw [← hrest]; simp
        have hrl : rest.length - 1 = rs.length := by rw [← hrest]; simp
        obtain ⟨b, off, y', rfl, hy, hcy⟩ := qi.at hlt
        have hyy : y' = y := by have := hy.out; rw [← hrest] at this; simpa using this.symm
        subst hyy
        rw [Nat.add_zero] at hcy
        have hb := qp _ rfl
        have hlI : (0 : Int) < (rest.length : Int) := by omega
        have hlI1 : (1 : Int) ≤ (rest.length : Int) := by omega
        have hlI2 : (rest.length : Int) ≤ (rc2 : Int) := by omega
        obtain ⟨ra3, hra⟩ : ∃ ra : Option Addr, (if rc2 = 1 then some ⟨b, off, none⟩ else some ⟨b, off + 1, none⟩) = ra := ⟨_, rfl⟩
        have hi3 : IntsR wr ra3 rs := by
          by_cases he : rs = []
          · exact .inl (by rw [he]; rfl)
          · have hlt' : 0 < rs.length := List.length_pos_iff.2 he
            rw [if_neg (by omega)] at hra
            rcases qi with h0 | ⟨b2, off2, hb2, hbs, hcc⟩
            · omega
            · cases hb2
              rw [← hra]
              refine .inr ⟨b, off + 1, rfl, hbs, fun j hj => ?_⟩
              have := hcc (j + 1) (by omega)
              rw [← hrest] at this
              rw [Nat.add_assoc, Nat.add_comm 1 j, this]
              rfl
        have hset := HP4.out.setR HN3.out (a := ra3) (c := rc2 - 1) (rest := rs) (by dsimp only; omega) hi3 (fun p hp => by rw [← hra] at hp; split at hp <;> (cases hp; exact hb)) (by omega) (by omega)
        rw [← hrl] at hset
        dsimp only at hset
        have hS5 : ({ S2 with cls := S2.cls.set n ⟨t.a, t.b, rs⟩ } : St) = { S with cls := S.cls.set n ⟨t.a, t.b, rs⟩ } := by rw [← HS2.out]; simp
        rw [hS5] at hset
        have HS5 := Lib.hid hset.1
        have HB5 := Lib.hid (HB3.out.trans hset.2)
        have HRL := Lib.hid hrl
        have HREST := Lib.hid hrest
        have hyok : y' ≠ 0 ∧ y'.natAbs ≤ m.n := HOKT.out _ (.inr (.inr (by obtain ⟨p, hp, _⟩ := HS3.out; rw [hp, ← hrest]; simp)))
        have hy1 : -1000000 ≤ y' := by have := HNN.out; omega
        have hy2 : y' ≤ 1000000 := by have := HNN.out; omega
        have HYOK := Lib.hid hyok
        have HLN : Hid (lenAt (wr.setCell ⟨g, n * 3 + 2, none⟩ (.slice ra3 (rest.length - 1) (rc2 - 1))) ⟨g, n * 3 + 2, none⟩ < lenAt wr ⟨g, n * 3 + 2, none⟩) := by
          unfold Hid
          have hc9 : (wr.setCell ⟨g, n * 3 + 2, none⟩ (.slice ra3 (rest.length - 1) (rc2 - 1))).cell? ⟨g, n * 3 + 2, none⟩ = some (.slice ra3 (rest.length - 1) (rc2 - 1)) := by
            exact HS5.out.cellAt (by obtain ⟨_, _, _, _, h3, _⟩ := HP4.out.cvs n _ HN3.out; exact (List.getElem?_eq_some_iff.1 h3).1)
          rw [HL.out, lenAt_of hc9]
          omega
        have HQB := Lib.hid hb
        clear qi qp hb hi3 hset hS5 hrest hrl hyok ql qm
        by_cases hyb : y' = t.b
        · have e2 : (y' != t.b) = false := by simp [hyb]
          have HS6 : Hid (∃ p, t.rest = p ++ rs ∧ scanS S.known t.b t.rest = scanS S.known t.b rs) := by
            obtain ⟨p, h1, h2⟩ := HS3.out
            refine ⟨p ++ [y'], by rw [h1, ← HREST.out]; simp, ?_⟩
            rw [h2, ← HREST.out, scanS, if_neg (by simp [hyb])]
          clear hyb
          go_wp2
          go_roundw
          case rel => exact ⟨rs, _, HS5, HB5, HS6⟩
          case measure => exact HLN.out
        · have e2 : (y' != t.b) = true := by simp [hyb]
          have HYB := Lib.hid hyb
          clear hyb
          have hkS : S2.known = S.known := by rw [← HS2.out]
          have hym : (-y').natAbs ≤ m.n := by rw [Int.natAbs_neg]; exact HYOK.out.2
          have hkat : kat S.known (-y') = kat S.known y' := by unfold kat; rw [Int.natAbs_neg]
          by_cases hkn : kat S.known y' = -y'
          · have HH := Lib.hid (pholds_is (x := -y') (b := true) HS5.out hym HNN.out (by rw [hkat, hkn]; simp))
            have HS6 : Hid (∃ p, t.rest = p ++ rs ∧ scanS S.known t.b t.rest = scanS S.known t.b rs) := by
              obtain ⟨p, h1, h2⟩ := HS3.out
              refine ⟨p ++ [y'], by rw [h1, ← HREST.out]; simp, ?_⟩
              rw [h2, ← HREST.out, scanS, if_neg (by simp [hkn])]
            have HW : Hid (∀ w', QuietTo (wr.setCell ⟨g, n * 3 + 2, none⟩ (.slice ra3 (rest.length - 1) (rc2 - 1))) w' → lenAt w' ⟨g, n * 3 + 2, none⟩ = lenAt (wr.setCell ⟨g, n * 3 + 2, none⟩ (.slice ra3 (rest.length - 1) (rc2 - 1))) ⟨g, n * 3 + 2, none⟩) := by
              rintro w' ⟨q, rfl⟩; rfl
            clear hkn hkat hym hkS
            go_wp2_with fail
            refine HH.out.mono ?_
            rintro e w' ⟨rfl, hq⟩
            have HQ := Lib.hid hq
            clear hq
            go_wp2
            go_roundw
            case rel => exact ⟨rs, _, HS5.out.below (quietBelow HQ.out _), HB5.out.trans (quietBelow HQ.out _), HS6⟩
            case measure => rw [HW.out _ HQ.out]; exact HLN.out
          · have HH := Lib.hid (pholds_is (x := -y') (b := false) HS5.out hym HNN.out (by rw [hkat]; simp [hkn]))
            have HKN := Lib.hid hkn
            have HSC : Hid (scanS S.known t.b t.rest = some (y', rs)) := by
              obtain ⟨p, h1, h2⟩ := HS3.out
              unfold Hid
              rw [h2, ← HREST.out, scanS, if_pos ⟨HYB.out, hkn⟩]
            clear hkn hkat hym hkS
            go_wp2_with fail
            refine HH.out.mono ?_
            rintro e w' ⟨rfl, hq⟩
            have HP6 := Lib.hid (HS5.out.below (quietBelow hq _))
            have HB6 := Lib.hid (HB5.out.trans (quietBelow hq B))
            have fq0 := HP6.out.clFree (n * 3)
            obtain ⟨_, _, p0, _, _, _⟩ := HP6.out.cl (e := ⟨t.a, t.b, rs⟩) (set_get _ _ _ _ HN.out)
            dsimp only at p0
            clear hq HH HS5 HB5 HLN HRL fr0 fr1 fq2 q0 q2
            go_wp2
            have hset := HP6.out.setA (set_get _ _ _ _ HN.out) y'
            have HP7 := Lib.hid hset.1
            have HB7 := Lib.hid (HB6.out.trans hset.2)
            clear hset HP6 HB6 p0 fq0
            generalize (World.setCell _ _ _) = wd at HP7 HB7 ⊢
            dsimp only at HP7
            rw [List.set_set] at HP7
            have hpc : N + 1 + potC (S.cls.set n ⟨y', t.b, rs⟩) ≤ m.T := by
              have h1 := HP4.out.pot
              have h2 := pot_set S2.cls n _ ⟨y', t.b, rs⟩ HN3.out
              have h3 : S2.cls.set n ⟨y', t.b, rs⟩ = S.cls.set n ⟨y', t.b, rs⟩ := by rw [← HS2.out]; simp
              rw [h3] at h2
              have h4 : rest.length = rs.length + 1 := by rw [← HREST.out]; rfl
              dsimp only at h2
              omega
            generalize hS7 : ({ S with cls := S.cls.set n ⟨y', t.b, rs⟩ } : St) = S7 at HP7
            have HPC : Hid (N + 1 + potC S7.cls ≤ m.T) := by unfold Hid; rw [← hS7]; exact hpc
            have HFIN : Hid ((replaceS S n x) = ({ S7 with watch := upd S7.watch y' (S7.watch y' ++ [(n : Int)]) }, true)) := by
              unfold Hid; rw [HTS.out _ _ HSC.out, ← hS7]
            have hyr : Rng y' := by constructor <;> omega
            have HYR := Lib.hid hyr
            obtain ⟨i0, hi, hz0, hz1, hz2⟩ := info_parts Try.info3
            have hc2 : wd.cell? ⟨m.pb, 2, none⟩ = some (.map (some m.mb)) := HP7.out.blk.cell rfl
            have hl1 := HP7.out.look (w' := wd.drew) rfl hyr
            have hl2 := HP7.out.look (w' := (wd.alloc (.cells #[.int .i64 n] 3)).drew) ((boxed wd _).drew.block _ HP7.out.map.lt) hyr
            have HW9 : Hid ((S7.watch y').length + 1 ≤ maxLen ∧ ((S7.watch y').length + 1) * 8 ≤ 140737488355328 ∧ ∀ o, B ≤ (wd.alloc o).drew.heap.size) := ⟨(roomy (by have := HP7.out.wlen y'; have := HT2.out; have := HP7.out.pot; omega)).1, (roomy (by have := HP7.out.wlen y'; have := HT2.out; have := HP7.out.pot; omega)).2.1, fun o => by have := HP7.out.size; simp; omega⟩
            have HS0 : Hid (wd.drew.cell? ⟨m.pb, 2, none⟩ = some (.map (some m.mb))) := hc2
            have HS1 : Hid (∀ o, (wd.alloc o).drew.cell? ⟨m.pb, 2, none⟩ = some (.map (some m.mb))) := fun o => by
              rw [World.cell?_of_block ((boxed wd o).drew.block m.pb HP7.out.blk.lt)]; exact hc2
            have HS2' : Hid (∀ o w7, (wd.alloc o).drew.grownBy w7 (f y').ownBlock → w7.cell? ⟨m.pb, 2, none⟩ = some (.map (some m.mb))) := fun o w7 hg => by
              rw [World.cell?_of_block ((hg.block m.pb (by simp; have := HP7.out.blk.lt; omega) (fun e => (HP7.out.off y' m.pb e.symm).1 rfl)))]; exact HS1.out o
            have HS3' : Hid (∀ o w7 w8, (wd.alloc o).drew.grownBy w7 (f y').ownBlock → w7.grownBy w8 (some m.mb) → w8.cell? ⟨m.pb, 2, none⟩ = some (.map (some m.mb))) := fun o w7 w8 hg hg2 => by
              rw [World.cell?_of_block ((hg2.block m.pb (Nat.lt_of_lt_of_le (by simp; have := HP7.out.blk.lt; omega) hg.size) (fun e => HP7.out.d3 (by injection e))))]; exact HS2'.out o w7 hg
            have HKEEP : Hid (∀ l, kat S.known l = -l → l ≠ y') := fun l hl e => by
              rw [e] at hl; exact HKN.out hl
            clear hS7 hpc hyr hc2 HP4 HN3 HS3 HTS HTN hra hlI hlI1 hlI2 hy1 hy2 hcy
            go_cut [] from 81 to 94 (fun we => Hid (∃ f', PR B m f' (.slice (some ⟨g, 0, none⟩) S.cls.length cap) (N + 1) s r (List.set (vs2.set (n * 3 + 2) (.slice ra3 (rest.length - 1) (rc2 - 1))) (n * 3) (.int .i64 y')) { S7 with watch := upd S7.watch y' (S7.watch y' ++ [(n : Int)]) } we ∧ ∀ z, z ≠ y' → f' z = f z) ∧ Hid (Below B wd we))
            case first =>
              go_region_held3 (fun w' => w'.cell? ⟨m.pb, 2, none⟩ = some (.map (some m.mb))) (first | exact HS0.out | exact HS1.out _ | exact HS2'.out _ _ hgrow | exact HS3'.out _ _ _ hgrow hg2)
                ((refine step_append_lies _ (by rfl) _ _ 23 (by rfl) B 3 i0 (.int .i64 0) 1 8 Try.underlying23 hi hz0 hz1 hz2 rfl (by omega) (f y') (S7.watch y').length ((S7.watch y').map (Value.int .i64)) (by rfl) ((World.ownsRow.alloc (HP7.out.rows y') _).drew) ⟨wd.heap.size, 0, none⟩ 1 1 [.int .i64 n] (by rfl) (by rfl) (World.news_of_block (cs := #[.int .i64 n]) (t := 3) (fr := (0, 0)) (heap_alloc_new wd _)) one_int (by omega) HW9.out.1 HW9.out.2.1 (HW9.out.2.2 _) (wd.heap.size + 1) (by simp) ?_; intro g9 cap9 w7 hown9 hgrow hat hlt9; obtain ⟨w8, hrun8, hg2, HP8, HB8⟩ := HP7.out.put HPC.out HT2.out HYR.out hown9 hgrow hat))
              all_goals (go_wp2_with fail; go_meet; exact ⟨HP8, HB8⟩)
            case rest =>
              obtain ⟨HPE, HB8⟩ := hcut
              obtain ⟨f3, HP8, hf3⟩ := HPE.out
              have HP9 := Lib.hid HP8
              have HF3 := Lib.hid hf3
              clear HS0 HS1 HS2' HS3' HW9 hl1 hl2 HP7 HPE HP8 hf3
              go_wp2
              go_ret
              rw [HFIN.out]
              exact ⟨rfl, ⟨_, _, _, _, HP9.out, fun l hl => HF3.out l (HKEEP.out l hl)⟩, HB7.out.trans HB8.out⟩
      | nil =>
        have HSC : Hid (scanS S.known t.b t.rest = none) := by
          obtain ⟨p, h1, h2⟩ := HS3.out
          unfold Hid
          rw [h2, hrs]; rfl
        have HP5 : Hid (PR B m f (.slice (some ⟨g, 0, none⟩) S.cls.length cap) N s r vs2 { S with cls := S.cls.set n ⟨t.a, t.b, []⟩ } wr) := by unfold Hid; rw [← hrs, HS2.out]; exact HP4.out
        have q2' : wr.cell? ⟨g, n * 3 + 2, none⟩ = some (.slice ra2 0 rc2) := by rw [q2, hrs]; rfl
        have HE := Lib.hid (HTN.out HSC.out)
        have HTBOK : Hid (t.b.natAbs ≤ m.n) := (HOKT.out _ (.inr (.inl rfl))).2
        clear q2 qi qp ql qm hrs HL
        go_wp2_with fail
        refine (learn_any HP5.out HTBOK.out HNN.out (fun h => HRT.out h)).mono ?_
        rintro e w' ⟨rfl, ⟨s', HP6⟩, HB6⟩
        have HP7 := Lib.hid HP6
        have HB7 := Lib.hid (HB3.out.trans HB6)
        clear HP6 HB6
        go_wp2
        go_ret
        rw [HE.out]
        exact ⟨rfl, ⟨_, _, _, _, HP7.out, fun _ _ => rfl⟩, HB7.out⟩
end Go.Proofs.Ytbljkbdbiceokaa
