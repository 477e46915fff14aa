/-
  The iterator over lines that are no comments.
-/
import Derived.Test.YtkannkalbhmlcaaDoorDimI
namespace Go.Proofs.YtkannkalbhmlcaaDoor
open Go.RowKit Go.Lib Go.Shelf
open Go.RowKit (Below)
attribute [local go_sem] Oper.semAt_some

structure El where
  n : Nat
  A : Nat
  ws : List ByteArray
def encEl (x : El) : Array Value := #[.int .i64 x.n, .slice (some ⟨x.A, 0, none⟩) x.ws.length x.ws.length]
def GEl (x : El) (W : World) : Prop := WordsAt W (some ⟨x.A, 0, none⟩) x.ws ∧ x.ws.length ≤ 65536 ∧ ∀ s ∈ x.ws, s.size ≤ 65536
def view (x : El) : Nat × List Word := (x.n, x.ws.map W8)
def numbered : Nat → List (List Word) → List (Nat × List Word)
  | _, [] => []
  | n, ws :: t => if isNote ws then numbered (n + 1) t else (n, ws) :: numbered (n + 1) t
def foldN (c : Nat) : Rd → List (Nat × List Word) → Except (Nat × Int) Rd
  | r, [] => .ok r
  | r, (n, ws) :: t => match stepL c r ws with | .error e => .error (n, e) | .ok r' => foldN c r' t
theorem runL_fold (c : Nat) : ∀ (ls : List (List Word)) (n : Nat) (r : Rd), runL c n r ls = foldN c r (numbered n ls)
  | [], _, _ => rfl
  | ws :: t, n, r => by
    unfold runL numbered
    split
    · exact runL_fold c t _ r
    · unfold foldN
      cases stepL c r ws with
      | error e => rfl
      | ok r' => exact runL_fold c t _ r'
theorem numbered_note {n : Nat} {ws : List Word} {t : List (List Word)} (h : isNote ws = true) : numbered n (ws :: t) = numbered (n + 1) t := by rw [numbered, if_pos h]
theorem numbered_line {n : Nat} {ws : List Word} {t : List (List Word)} (h : isNote ws = false) : numbered n (ws :: t) = (n, ws) :: numbered (n + 1) t := by rw [numbered, if_neg (by rw [h]; simp)]
theorem foldN_append (c : Nat) : ∀ (a b : List (Nat × List Word)) (r : Rd), foldN c r (a ++ b) = match foldN c r a with | .error e => .error e | .ok r' => foldN c r' b
  | [], b, r => rfl
  | (n, ws) :: t, b, r => by
    simp only [List.cons_append, foldN]
    cases stepL c r ws with
    | error e => rfl
    | ok r' => exact foldN_append c t b r'

theorem cutL_le : ∀ (l : List UInt8), (cutL l).1.length ≤ l.length
  | [] => by simp [cutL]
  | c :: t => by
    unfold cutL
    split
    · simp
    · have := cutL_le t; simp; omega
theorem numbered_next {pre : List El} {k : Nat} {l a b : List UInt8} {all : List (Nat × List Word)} (h : pre.map view ++ numbered k (linesW l) = all) (hl : linesW l = fieldsB a :: linesW b) :
    (isNote (fieldsB a) = true → pre.map view ++ numbered (k + 1) (linesW b) = all) ∧ (isNote (fieldsB a) = false → ∀ x : El, x.n = k → x.ws.map W8 = fieldsB a → (pre ++ [x]).map view ++ numbered (k + 1) (linesW b) = all) := by
  rw [hl] at h
  constructor
  · intro hn; rw [numbered_note hn] at h; exact h
  · intro hn x h1 h2
    rw [numbered_line hn] at h
    rw [← h]
    simp [view, h1, h2]
theorem endW_feed (s : Ls) (c : UInt8) (hc : ¬ c = 10) : (endW (feed s c)).length ≤ (endW s).length + 1 := by
  unfold feed
  rw [if_neg hc]
  split
  · simp [endW]
  · unfold endW
    simp only
    split
    · split <;> (try simp only [List.length_append, List.length_cons, List.length_nil]) <;> omega
    · split <;> (try simp only [List.length_append, List.length_cons, List.length_nil]) <;> omega
theorem fieldsB_le : ∀ (a : List UInt8) (s : Ls), (10 : UInt8) ∉ a → (endW (a.foldl feed s)).length ≤ (endW s).length + a.length
  | [], s, _ => by simp
  | c :: t, s, h => by
    simp only [List.mem_cons, not_or] at h
    rw [List.foldl_cons]
    have h1 := fieldsB_le t (feed s c) h.2
    have h2 := endW_feed s c (fun e => h.1 e.symm)
    simp only [List.length_cons]; omega
theorem fields_small (p : Nat → Bool) (s : ByteArray) : ∀ x ∈ goFieldsP p s, x.size ≤ s.size := by
  intro x hx
  unfold goFieldsP at hx
  obtain ⟨y, _, rfl⟩ := List.mem_map.1 hx
  rw [ByteArray.size_extract]; omega
theorem fields_len (s : ByteArray) (hn : (10 : UInt8) ∉ W8 s) : (goFieldsP blankR s).length ≤ s.size := by
  have h1 := congrArg List.length (fields_eq s hn)
  rw [List.length_map] at h1
  have h2 := fieldsB_le (W8 s) ls0 hn
  have h3 : (endW ls0).length = 0 := rfl
  rw [w8_len, h3] at h2
  rw [h1]
  unfold fieldsB
  omega
def strLen (v : Value) : Nat := match v with | .string s => s.size | _ => 0

theorem cut_is (rest : ByteArray) (w : World) (hs : rest.size ≤ 65536) (m : Int) (hm : w.cell? ⟨0, 0, none⟩ = some (.int .i64 m)) :
    ∃ a b : ByteArray, (W8 a = (cutL (W8 rest)).1 ∧ W8 b = (cutL (W8 rest)).2) ∧
      Calls Tryd.prog 41 #[.string rest, .string ⟨#[10]⟩] w fun e w' => (∃ f, e = .returned (.tuple #[.string a, .string b, .bool f])) ∧ QuietTo w w' := by
  have hc := cut_eq (W8 rest)
  refine ⟨⟨(Lib.cut (W8 rest) [10]).1.toArray⟩, ⟨(Lib.cut (W8 rest) [10]).2.1.toArray⟩, ⟨hc.1, hc.2⟩, ?_⟩
  exact (Tryd.strings_Cut rest ⟨#[10]⟩ m w (by omega) hm).mono fun e w' ⟨h1, h2⟩ => ⟨⟨_, h1⟩, h2⟩
theorem lines_any (s : ByteArray) (w : World) : Calls Tryd.prog 28 #[.string s] w fun e w' => e = .returned (.func (.func 40) #[] #[.pointer (some ⟨w.heap.size, 0, none⟩)]) ∧ w' = w.alloc (.cells #[.string s] 9) := by
  have hmf : ∀ (fn : Fn) (first cap : Array Value) (w : World), (Instr.makeFunc fn first cap).run Tryd.prog w = .ok (.func fn first cap) w := fun _ _ _ _ => rfl
  go_enter Tryd.func28, Tryd.ntmps28
  go_wp2
  go_ret
  exact ⟨rfl, rfl⟩
theorem abides_below {β : Type} {B : Nat} {J : β → World → Prop} (h : AbidesFrom B J) {s : β} {W W' : World} (hs : J s W) (hb : Below W.heap.size W W') : J s W' :=
  h s W W' none hs ⟨hb.os, hb.tape, hb.output, hb.size, fun k hk _ => hb.block k hk⟩ (fun r e => by cases e)

set_option maxRecDepth 100000 in
set_option maxHeartbeats 4000000 in
theorem linesSeq (n : Nat) (hn : 2 ≤ n) (s : ByteArray) (Bn n₀ : Nat) (w : World) (hs : s.size ≤ 65536) (he : Env w) (hBn : Bn < w.heap.size) (hc : w.cell? ⟨Bn, 0, none⟩ = some (.string s)) (h0 : 0 < n₀) (hn0 : n₀ ≤ w.heap.size) :
    SeqG Fence.wide n Tryd.prog 40 #[.pointer (some ⟨Bn, 0, none⟩)] encEl GEl n₀ (fun xs => xs.map view = numbered 1 (linesW (W8 s))) (fun pre => pre.map view <+: numbered 1 (linesW (W8 s))) w := by
  intro l J Jx W hW hJ hJx hY hJ0
  have hcW : W.cell? ⟨Bn, 0, none⟩ = some (.string s) := (hW.cell (p := ⟨Bn, 0, none⟩) hBn).trans hc
  obtain ⟨m, hm⟩ := (he.below hW).cell
  have HM := Lib.hid hm
  have HMl := Lib.hid (he.below hW).lt
  have HJ := Lib.hid hJ
  have HY := Lib.hid hY
  clear hJ hY hJx hm he
  refine callsIn_of_wp Tryd.func40 rfl trivial ?_ rfl
  simp only [Tryd.ntmps40, List.size_toArray, List.length_cons, List.length_nil, Nat.reduceAdd, Nat.reduceSub, Array.replicate_succ, Array.replicate_zero, List.push_toArray, List.append_toArray, List.nil_append, List.cons_append]
  gi_wp2
  gi_loopw [3, 4] (fun a b wr => ∃ (rest : ByteArray) (k : Nat) (pre : List El), a = .string rest ∧ b = .int .i64 k ∧ rest.size ≤ s.size ∧ k ≤ 1 + (s.size - rest.size) ∧ Hid (pre.map view ++ numbered k (linesW (W8 rest)) = numbered 1 (linesW (W8 s))) ∧ Hid (J pre wr) ∧ Hid (Below n₀ W wr)) (fun a _ _ => strLen a)
  case atStart => exact ⟨s, 1, [], rfl, rfl, Nat.le_refl _, by omega, rfl, hJ0, Below.refl _ _⟩
  case round =>
    obtain ⟨rest, k, pre, rfl, rfl, hrs, hk, HN, HJp, HB⟩ := hrel
    have hm : wr.cell? ⟨0, 0, none⟩ = some (.int .i64 m) := (HB.out.cell (p := ⟨0, 0, none⟩) h0).trans HM.out
    by_cases hr : 0 < rest.size
    · obtain ⟨hl0, hl1⟩ := not_empty hr
      have hne : W8 rest ≠ [] := by rw [toList_w8] at hl0; exact hl0
      obtain ⟨a, b, hab, hcut⟩ := cut_is rest wr (by omega) m hm
      have hlc := linesW_cut (W8 rest) hne
      have hlt := cutL_lt (W8 rest) hne
      have hsp := cutL_spec (W8 rest)
      rw [← hab.1, ← hab.2] at hlc hsp
      rw [← hab.2, w8_len, w8_len] at hlt
      have hal : a.size ≤ rest.size := by have := cutL_le (W8 rest); rw [← hab.1, w8_len, w8_len] at this; exact this
      have hF := fields_eq a hsp.1
      have hFl := fields_len a hsp.1
      have hNx := numbered_next HN.out hlc
      obtain ⟨bs, hbs⟩ : ∃ bs, goFieldsP blankR a = bs := ⟨_, rfl⟩
      have hsm : ∀ x ∈ bs, x.size ≤ 65536 := fun x hx => by have := fields_small blankR a x (by rw [hbs]; exact hx); omega
      have hfun := fun W' => Tryd.strings_FieldsFunc 43 #[] (enters_of Tryd.func43 (by kernel_rfl) rfl) blankR a W' (by omega) (isBlank_gives W')
      rw [hbs] at hF hFl
      simp only [hbs] at hfun
      rw [← hF] at hNx
      have HNx := Lib.hid hNx
      have HSM := Lib.hid hsm
      have HFun := Lib.hid hfun
      have HCut := Lib.hid hcut
      have hbl : bs.length ≤ 65536 := by omega
      clear hab hlc hsp hF hNx hsm hfun hcut hne hbs hm
      gi_wp2
      refine ⟨trivial, fun _ => by omega, ?_⟩
      refine (callsIn_wide.2 HCut.out).mono ?_
      rintro e w1 ⟨⟨f, rfl⟩, hq⟩
      have HQ := Lib.hid hq
      clear hq
      gi_wp2
      refine ⟨trivial, fun _ => by omega, ?_⟩
      refine (callsIn_wide.2 (HFun.out _)).mono ?_
      rintro e w2 ⟨A, rfl, hA, hown, hB2⟩
      have hb12 := (quietBelow HQ.out wr.heap.size).trans (hB2.mono (by have := HQ.out; obtain ⟨q, rfl⟩ := this; exact Nat.le_refl _))
      have HB12 := Lib.hid hb12
      have HBn := Lib.hid (HB.out.trans (hb12.mono (by have := HB.out.size; have := hW.size; omega)))
      have HJ2 := Lib.hid (abides_below HJ.out HJp.out hb12)
      have HWd : Hid (WordsAt w2 (some ⟨A, 0, none⟩) bs) := WordsAt.of hown
      clear hA hown hB2 hb12
      cases bs with
      | nil =>
        have HN2 := Lib.hid (HNx.out.1 rfl)
        gi_wp2
        go_roundw
        case rel => exact ⟨b, k + 1, pre, rfl, by go_num, by omega, by omega, HN2, HJ2, HBn⟩
        case measure => simp [strLen]; omega
      | cons x t =>
        obtain ⟨A', s0, hA', HS0, hc0⟩ := HWd.out.at (j := 0) (by simp)
        injection hA' with hA'
        injection hA' with hA'
        subst hA'
        have hx : s0 = x := by have := HS0.out; simpa using this.symm
        subst hx
        by_cases hcc : s0.toList = [99]
        · have HN2 := Lib.hid (HNx.out.1 (by unfold isNote; rw [List.map_cons, ← toList_w8, hcc]; rfl))
          gi_wp2
          go_roundw
          case rel => exact ⟨b, k + 1, pre, rfl, by go_num, by omega, by omega, HN2, HJ2, HBn⟩
          case measure => simp [strLen]; omega
        · have hcc2 : (s0.toList == [99]) = false := by simp [hcc]
          have HN2 := Lib.hid (HNx.out.2 (by unfold isNote; rw [List.map_cons]; simp only; rw [← toList_w8]; exact hcc2) ⟨k, A, s0 :: t⟩ rfl rfl)
          obtain ⟨fn, tmps, assign, body, hy, hR⟩ := HY.out pre ⟨k, A, s0 :: t⟩ w2 HJ2.out ⟨HWd.out, hbl, HSM.out⟩
          unfold encEl at hy
          simp only [List.length_cons] at hy
          clear hcc
          gi_wp2
          refine ⟨fun _ => by omega, ?_⟩
          refine hR.mono ?_
          rintro e w3 (⟨rfl, hJ3, hk3⟩ | ⟨rfl, hJx3⟩)
          · have HJ3 := Lib.hid hJ3
            have HB3 := Lib.hid (HBn.out.trans hk3)
            clear hJ3 hk3
            gi_wp2
            go_roundw
            case rel => exact ⟨b, k + 1, pre ++ [⟨k, A, s0 :: t⟩], rfl, by go_num, by omega, by omega, HN2, HJ3, HB3⟩
            case measure => simp [strLen]; omega
          · have HX : Hid ((pre ++ [(⟨k, A, s0 :: t⟩ : El)]).map view <+: numbered 1 (linesW (W8 s))) := ⟨_, HN2.out⟩
            have HJX := Lib.hid hJx3
            clear hJx3
            gi_wp2
            refine bodyPost_ret (results_none rfl _ _ _) rfl ?_
            exact ⟨⟨_, rfl⟩, .inr ⟨_, HX.out, HJX.out⟩⟩
    · have HE := Lib.hid (empty_of hr)
      have hl0 : rest.toList = [] := by rw [toList_w8]; exact HE.out
      have HS : Hid (pre.map view = numbered 1 (linesW (W8 s))) := by
        have := HN.out
        rw [HE.out, linesW_nil] at this
        unfold Hid; simpa [numbered] using this
      clear hm
      gi_wp2
      go_end0
      exact ⟨⟨_, rfl⟩, .inl ⟨pre, HS.out, HJp.out⟩⟩
end Go.Proofs.YtkannkalbhmlcaaDoor
