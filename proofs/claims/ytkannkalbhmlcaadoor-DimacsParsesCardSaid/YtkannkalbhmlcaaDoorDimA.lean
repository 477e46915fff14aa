/-
  Layer 3 in plain words: lines and words of a text, the number of a word, what is read of a text, and the text of a formula.
-/
import Derived.Lib.ItoaNum
namespace Go.Proofs.YtkannkalbhmlcaaDoor
open Go.Lib

abbrev Word := List UInt8

/-! Lines of words. -/
structure Ls where
  out : List (List Word)
  line : List Word
  word : Word
  pend : Bool

def endW (s : Ls) : List Word := if s.word = [] then s.line else s.line ++ [s.word]
def feed (s : Ls) (c : UInt8) : Ls :=
  if c = 10 then ⟨s.out ++ [endW s], [], [], false⟩
  else if c = 32 ∨ c = 9 then ⟨s.out, endW s, [], true⟩
  else ⟨s.out, s.line, s.word ++ [c], true⟩
def fin (s : Ls) : List (List Word) := if s.pend then s.out ++ [endW s] else s.out
def ls0 : Ls := ⟨[], [], [], false⟩
def linesW (l : List UInt8) : List (List Word) := fin (l.foldl feed ls0)

/-! The number of a word, cut off at c. -/
def digs (c : Nat) : Nat → List UInt8 → Option Nat
  | x, [] => some x
  | x, d :: t => if 48 ≤ d.toNat ∧ d.toNat ≤ 57 then digs c (min (10 * x + (d.toNat - 48)) c) t else none
def unsign (w : Word) : Word := match w with | 45 :: t => t | _ => w
def neg (w : Word) : Bool := match w with | 45 :: _ => true | _ => false
def num (c : Nat) (w : Word) : Option Int :=
  match unsign w with
  | [] => none
  | d :: t => if d = 48 ∧ w ≠ [48] then none else (digs c 0 (d :: t)).map fun (x : Nat) => if neg w then -(x : Int) else x

/-! What is read. -/
structure Rd where
  begun : Bool
  ann : Int
  vars : Int
  cls : List (List Int)
  cl : List Int
def rd0 : Rd := ⟨false, 0, 0, [], []⟩
def stepW (c : Nat) (r : Rd) (w : Word) : Except Int Rd :=
  match num c w with
  | none => .error 4
  | some x =>
    if (r.cls.length : Int) = r.ann then .error 4
    else if x = 0 then .ok { r with cls := r.cls ++ [r.cl], cl := [] }
    else if r.vars < x ∨ x < -r.vars then .error 3
    else if r.cl.length = 4096 then .error 5
    else .ok { r with cl := r.cl ++ [x] }
def stepsW (c : Nat) : Rd → List Word → Except Int Rd
  | r, [] => .ok r
  | r, w :: t => match stepW c r w with | .error e => .error e | .ok r' => stepsW c r' t
def headW (c : Nat) (ws : List Word) : Except Int (Int × Int) :=
  match ws with
  | [p, q, a, b] =>
    if p = [112] ∧ q = [99, 110, 102] then
      match num c a, num c b with
      | some v, some k => if v < 0 ∨ k < 0 then .error 4 else if 1048576 < v then .error 3 else if 1048576 < k then .error 5 else .ok (v, k)
      | _, _ => .error 4
    else .error 4
  | _ => .error 4
def stepL (c : Nat) (r : Rd) (ws : List Word) : Except Int Rd :=
  if r.begun then stepsW c r ws else match headW c ws with | .error e => .error e | .ok (v, k) => .ok { r with begun := true, vars := v, ann := k }
def isNote (ws : List Word) : Bool := match ws with | [] => true | w :: _ => w == [99]
def runL (c : Nat) : Nat → Rd → List (List Word) → Except (Nat × Int) Rd
  | _, r, [] => .ok r
  | n, r, ws :: t => if isNote ws then runL c (n + 1) r t else match stepL c r ws with | .error e => .error (n, e) | .ok r' => runL c (n + 1) r' t
structure Out where
  vars : Int
  cls : List (List Int)
  line : Int
  err : Int
deriving DecidableEq
def endR (n : Nat) (r : Rd) : Out := if r.begun = false ∨ (r.cls.length : Int) < r.ann then ⟨0, [], n + 1, 4⟩ else ⟨r.vars, r.cls, 0, 0⟩
def parseC (c : Nat) (l : List UInt8) : Out :=
  if 65536 < l.length then ⟨0, [], 0, 5⟩
  else match runL c 1 rd0 (linesW l) with
    | .error (n, e) => ⟨0, [], n, e⟩
    | .ok r => endR (linesW l).length r
def parseB (l : List UInt8) : Out := parseC 1048577 l

/-! Where numbers are cut off makes no difference beyond the limits. -/
theorem digs_cut (c d : Nat) (h : c ≤ d) : ∀ (l : List UInt8) (x y : Nat), x = min y c → digs c x l = (digs d y l).map fun z => min z c
  | [], x, y, e => by simp [digs, e]
  | u :: t, x, y, e => by
    unfold digs
    split
    · exact digs_cut c d h t _ _ (by subst e; omega)
    · rfl
def clampI (c : Nat) (x : Int) : Int := if (c : Int) < x then c else if x < -(c : Int) then -(c : Int) else x
theorem clamp_neg (c : Nat) (x : Int) (h : 0 < c) : clampI c x < 0 ↔ x < 0 := by
  unfold clampI; split <;> (try split) <;> omega
theorem num_cut (c d : Nat) (h : c ≤ d) (w : Word) : num c w = (num d w).map (clampI c) := by
  unfold num
  cases unsign w with
  | nil => rfl
  | cons u t =>
    simp only
    split
    · rfl
    · rw [digs_cut c d h (u :: t) 0 0 (by omega)]
      cases digs d 0 (u :: t) with
      | none => rfl
      | some z =>
        simp only [Option.map_some]
        congr 1
        unfold clampI
        cases neg w <;> simp <;> split <;> (try split) <;> omega
def Fine (r : Rd) : Prop := 0 ≤ r.vars ∧ r.vars ≤ 1048576
theorem stepW_cut (c d : Nat) (hc : 1048576 < c) (h : c ≤ d) (r : Rd) (hr : Fine r) (w : Word) : stepW c r w = stepW d r w := by
  unfold stepW
  rw [num_cut c d h]
  cases num d w with
  | none => rfl
  | some x =>
    have h1 := hr.1
    have h2 := hr.2
    simp only [Option.map_some]
    split
    · rfl
    · have e1 : clampI c x = 0 ↔ x = 0 := by unfold clampI; split <;> (try split) <;> omega
      have e2 : (r.vars < clampI c x ∨ clampI c x < -r.vars) ↔ (r.vars < x ∨ x < -r.vars) := by unfold clampI; split <;> (try split) <;> omega
      simp only [e1, e2]
      split
      · rfl
      · split
        · rfl
        · have e3 : clampI c x = x := by unfold clampI; split <;> (try split) <;> omega
          rw [e3]
theorem stepW_fine {c : Nat} {r r' : Rd} {w : Word} (hr : Fine r) (h : stepW c r w = .ok r') : Fine r' := by
  unfold stepW at h
  cases hn : num c w with
  | none => rw [hn] at h; simp at h
  | some x =>
    rw [hn] at h
    simp only at h
    repeat' split at h
    all_goals first | (cases h; exact hr) | (simp at h)
theorem stepsW_cut (c d : Nat) (hc : 1048576 < c) (h : c ≤ d) : ∀ (ws : List Word) (r : Rd), Fine r → stepsW c r ws = stepsW d r ws
  | [], _, _ => rfl
  | w :: t, r, hr => by
    unfold stepsW
    rw [stepW_cut c d hc h r hr w]
    cases hs : stepW d r w with
    | error e => rfl
    | ok r' => exact stepsW_cut c d hc h t r' (stepW_fine hr hs)
theorem stepsW_fine {c : Nat} : ∀ (ws : List Word) {r r' : Rd}, Fine r → stepsW c r ws = .ok r' → Fine r'
  | [], r, r', hr, h => by cases h; exact hr
  | w :: t, r, r', hr, h => by
    unfold stepsW at h
    cases hs : stepW c r w with
    | error e => rw [hs] at h; cases h
    | ok r1 => rw [hs] at h; exact stepsW_fine t (stepW_fine hr hs) h
theorem headW_cut (c d : Nat) (hc : 1048576 < c) (h : c ≤ d) (ws : List Word) : headW c ws = headW d ws := by
  unfold headW
  split
  · split
    · rename_i a b _
      rw [num_cut c d h, num_cut c d h]
      cases num d a with
      | none => rfl
      | some v =>
        cases num d b with
        | none => rfl
        | some k =>
          simp only [Option.map_some]
          have e1 : (clampI c v < 0 ∨ clampI c k < 0) ↔ (v < 0 ∨ k < 0) := by rw [clamp_neg c v (by omega), clamp_neg c k (by omega)]
          have e2 : 1048576 < clampI c v ↔ 1048576 < v := by unfold clampI; split <;> (try split) <;> omega
          have e3 : 1048576 < clampI c k ↔ 1048576 < k := by unfold clampI; split <;> (try split) <;> omega
          simp only [e1, e2, e3]
          split
          · rfl
          · split
            · rfl
            · split
              · rfl
              · have e4 : clampI c v = v := by unfold clampI; split <;> (try split) <;> omega
                have e5 : clampI c k = k := by unfold clampI; split <;> (try split) <;> omega
                rw [e4, e5]
    · rfl
  · rfl
theorem headW_fine {c : Nat} {ws : List Word} {v k : Int} (h : headW c ws = .ok (v, k)) : 0 ≤ v ∧ v ≤ 1048576 ∧ 0 ≤ k ∧ k ≤ 1048576 := by
  unfold headW at h
  repeat' split at h
  all_goals first | (simp only [Except.ok.injEq, Prod.mk.injEq] at h; omega) | (simp at h)
theorem stepL_cut (c d : Nat) (hc : 1048576 < c) (h : c ≤ d) (r : Rd) (hr : Fine r) (ws : List Word) : stepL c r ws = stepL d r ws := by
  unfold stepL
  rw [headW_cut c d hc h, stepsW_cut c d hc h ws r hr]
theorem stepL_fine {c : Nat} {r r' : Rd} {ws : List Word} (hr : Fine r) (h : stepL c r ws = .ok r') : Fine r' := by
  unfold stepL at h
  split at h
  · exact stepsW_fine ws hr h
  · split at h
    · cases h
    · rename_i v k hh
      cases h
      have := headW_fine hh
      exact ⟨this.1, this.2.1⟩
theorem runL_cut (c d : Nat) (hc : 1048576 < c) (h : c ≤ d) : ∀ (ls : List (List Word)) (n : Nat) (r : Rd), Fine r → runL c n r ls = runL d n r ls
  | [], _, _, _ => rfl
  | ws :: t, n, r, hr => by
    unfold runL
    split
    · exact runL_cut c d hc h t _ r hr
    · rw [stepL_cut c d hc h r hr]
      cases hs : stepL d r ws with
      | error e => rfl
      | ok r' => exact runL_cut c d hc h t _ r' (stepL_fine hr hs)
theorem rd0_fine : Fine rd0 := by unfold Fine rd0; simp
theorem parseC_cut (d : Nat) (h : 1048577 ≤ d) (l : List UInt8) : parseC d l = parseB l := by
  unfold parseB parseC
  rw [runL_cut 1048577 d (by omega) h _ _ _ rd0_fine]

/-! The text of a formula. -/
def sp : UInt8 := 32
def nl : UInt8 := 10
def clauseT (z : List Int) : List UInt8 := (z.flatMap fun x => itoa x ++ [32]) ++ [48, 10]
def headT (v : Int) (k : Nat) : List UInt8 := [112, 32, 99, 110, 102, 32] ++ itoa v ++ [32] ++ itoa k ++ [10]
def formT (v : Int) (zss : List (List Int)) : List UInt8 := headT v zss.length ++ zss.flatMap clauseT
end Go.Proofs.YtkannkalbhmlcaaDoor
