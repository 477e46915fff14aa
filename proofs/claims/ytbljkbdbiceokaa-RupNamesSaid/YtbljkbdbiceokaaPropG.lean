/-
  watch: a clause is added.
-/
import Derived.Test.YtbljkbdbiceokaaPropF
import Derived.Deep.RegionLaw
import Derived.Deep.CutRange
namespace Go.Proofs.Ytbljkbdbiceokaa
open Go.RowKit Go.Lib
open Go.RowKit (Below)

theorem diff_at {c0 x : Int} : ∀ {l : List Int} {k : Nat}, l[k]? = some x → x ≠ c0 → (∀ j, j < k → l[j]? = some c0) → diffS c0 l = some (x, l.drop (k + 1))
  | [], k, h, _, _ => by simp at h
  | z :: l, 0, h, hne, _ => by simp at h; subst h; simp [diffS, hne]
  | z :: l, k + 1, h, hne, hall => by
    have h0 : z = c0 := by simpa using hall 0 (by omega)
    rw [diffS, if_neg (by simp [h0]), diff_at (k := k) (by simpa using h) hne (fun j hj => by simpa using hall (j + 1) (by omega))]
    simp
theorem diff_all {c0 : Int} : ∀ {l : List Int}, (∀ j, j < l.length → l[j]? = some c0) → diffS c0 l = none
  | [], _ => rfl
  | z :: l, hall => by
    have h0 : z = c0 := by simpa using hall 0 (by simp)
    rw [diffS, if_neg (by simp [h0]), diff_all fun j hj => by simpa using hall (j + 1) (by simp; omega)]
theorem watchS_some {S : St} {c : List Int} {x y : Int} {r' : List Int} (h : c[0]? = some x) (hd : diffS x c = some (y, r')) :
    watchS S c = ({ S with cls := S.cls ++ [⟨x, y, r'⟩], watch := upd (upd S.watch x (S.watch x ++ [(S.cls.length : Int)])) y (S.watch y ++ [(S.cls.length : Int)]) }, true) := by
  cases c with
  | nil => simp at h
  | cons z r => simp at h; subst h; simp [diffS] at hd; simp [watchS, hd]
theorem watchS_none {S : St} {c : List Int} {x : Int} (h : c[0]? = some x) (hd : diffS x c = none) : watchS S c = learnS S x := by
  cases c with
  | nil => simp at h
  | cons z r => simp at h; subst h; simp [diffS] at hd; simp [watchS, hd]

theorem Try.infoCl : (Try.prog.info? 113).map (fun i => (i.zero, i.size, i.bytes)) = some (some (.agg #[.int .i64 0, .int .i64 0, .slice none 0 0]), 3, 40) := by kernel_rfl
theorem Try.zeroSl (w : World) : (zeroValue 23).run Try.prog w = .ok (.slice none 0 0) w := by kernel_rfl

theorem three_one {x y : Int} {a : Option Addr} {n c : Nat} : ∀ u ∈ [Value.int .i64 x, .int .i64 y, .slice a n c], u.oneCell' = true := by
  intro u hu; simp at hu; rcases hu with rfl | rfl | rfl <;> rfl
theorem cvForm {w : World} {B L size : Nat} {e : TypeId} {v : Value} {xs : List Value} (h : w.ownsRow B e size v L xs) : ∃ a c, v = .slice a L c := by
  rcases h.2 with ⟨h2, h0⟩ | ⟨g', cap', cur, h2, _⟩
  · exact ⟨none, 0, by rw [h0]; exact h2⟩
  · exact ⟨_, _, h2⟩

/-- What a law on append asks of the numbers. -/
theorem roomy {n : Nat} (h : n ≤ 1000000000000) : n + 1 ≤ maxLen ∧ (n + 1) * 8 ≤ 140737488355328 ∧ (n + 1) * 40 ≤ 140737488355328 := by
  have : maxLen = 9223372036854775807 := rfl
  omega
theorem PR.size {B : Nat} {m : Mm} {f : Int → Value} {cv : Value} {N s r : Nat} {vs : List Value} {S : St} {w : World} (h : PR B m f cv N s r vs S w) : B ≤ w.heap.size := by have := h.hp; have := h.blk.lt; omega
theorem PR.look {B : Nat} {m : Mm} {f : Int → Value} {cv : Value} {N s r : Nat} {vs : List Value} {S : St} {w : World} (h : PR B m f cv N s r vs S w) {w' : World} (hb : w'.heap[m.mb]? = w.heap[m.mb]?) {x : Int} (hx : Rng x) :
    (Instr.lookup 95 (.map (some m.mb)) (.int .i64 x) false).run Try.prog w' = .ok (f x) w' := (h.map.of hb).look Try.underlying95 Try.zeroSl hx
theorem PR.put {B : Nat} {m : Mm} {f : Int → Value} {cv : Value} {N s r : Nat} {vs : List Value} {S : St} {w : World} (h : PR B m f cv N s r vs S w) (hT : N + 1 + potC S.cls ≤ m.T) (hT2 : m.T ≤ 1000000000000) {w1 : World} {o : Obj} {y x : Int} (hy : Rng y) {g cap : Nat}
    (hown : w1.ownsRow B 3 1 (.slice (some ⟨g, 0, none⟩) ((S.watch y).length + 1) cap) ((S.watch y).length + 1) ((S.watch y).map (Value.int .i64) ++ [.int .i64 x])) (hg : (w.alloc o).drew.grownBy w1 (f y).ownBlock) (hat : (f y).ownBlock = some g ∨ g = w.heap.size + 1) :
    ∃ w2, (Instr.mapUpdate 95 (.map (some m.mb)) (.int .i64 y) (.slice (some ⟨g, 0, none⟩) ((S.watch y).length + 1) cap)).run Try.prog w1 = .ok () w2 ∧
      w1.grownBy w2 (some m.mb) ∧ Hid (∃ f', PR B m f' cv (N + 1) s r vs { S with watch := upd S.watch y (S.watch y ++ [x]) } w2 ∧ ∀ z, z ≠ y → f' z = f z) ∧ Hid (Below B w w2) := by
  have hm1 : w1.heap[m.mb]? = w.heap[m.mb]? := (hg.block m.mb (by simp; have := h.map.lt; omega) (fun e => (h.off y m.mb e.symm).2.2.2.1 rfl)).trans ((boxed w o).drew.block _ h.map.lt)
  obtain ⟨w2, hr, hm2, hg2⟩ := (h.map.of hm1).put Try.underlying95 (by have : maxLen = 9223372036854775807 := rfl; omega) hy (.slice (some ⟨g, 0, none⟩) ((S.watch y).length + 1) cap)
  have hP := h.mapPut (boxed w o).drew hown hg (by rcases hat with h1 | h1; exact .inl (by rw [h1]; rfl); exact .inr ⟨g, rfl, by omega⟩) hm2 hg2 hT
  exact ⟨w2, hr, hg2, ⟨_, hP.1, fun z hz => by simp [hz]⟩, hP.2⟩

set_option maxHeartbeats 1000000 in
theorem watch_any {B : Nat} {m : Mm} {f : Int → Value} {cv : Value} {N s r : Nat} {vs : List Value} {S : St} {w : World} (h : PR B m f cv N s r vs S w) {c : List Int} {a : Option Addr} {cap : Nat} (hc : IntsR w a c) (hp : 0 < c.length → ∀ p, a = some p → p.block < B ∧ p.block < w.heap.size)
    (hcap : c.length ≤ cap) (hcap2 : cap ≤ maxLen) (hok : ∀ x ∈ c, x ≠ 0 ∧ x.natAbs ≤ m.n) (hn : m.n ≤ 1000000) (hT : N + potC S.cls + c.length ≤ m.T) (hT2 : m.T ≤ 1000000000000) (hL : S.cls.length ≤ 1000000000) (hroom : ∀ x ∈ c, kat S.known x = 0 → S.queue.length < 2 * m.n) :
    Calls Try.prog 59 #[.pointer (some ⟨m.pb, 0, none⟩), .slice a c.length cap] w fun e w' => e = .returned (.bool (watchS S c).2) ∧
      (∃ f' cv' N' s' vs', PR B m f' cv' N' s' r vs' (watchS S c).1 w' ∧ N' + potC (watchS S c).1.cls ≤ N + potC S.cls + c.length) ∧ Below B w w' := by
  by_cases h0 : c.length = 0
  · obtain rfl : c = [] := List.length_eq_zero_iff.1 h0
    have HP := Lib.hid h
    clear hc hp hok hT hroom h
    go_enter Try.func59, Try.ntmps59
    go_wp2
    go_ret
    exact ⟨rfl, ⟨_, _, _, _, _, HP.out, by simp [watchS]⟩, Below.refl _ _⟩
  · have hpos : 0 < c.length := by omega
    obtain ⟨b, off, c0, rfl, hx0, hcx0⟩ := hc.at hpos
    rw [Nat.add_zero] at hcx0
    have hb : b < B ∧ b < w.heap.size := hp hpos _ rfl
    have HP := Lib.hid h
    have HC := Lib.hid hc
    have HOK := Lib.hid hok
    have HR := Lib.hid hroom
    have HT := Lib.hid hT
    have HT2 := Lib.hid hT2
    have HL2 := Lib.hid hL
    have HN := Lib.hid hn
    have HC0 : Hid (c0 ≠ 0 ∧ c0.natAbs ≤ m.n) := hok _ (List.mem_of_getElem? hx0.out)
    have e1 : ((c.length : Int) == 0) = false := by rw [beq_eq_false_iff_ne]; omega
    have hcapI : (c.length : Int) ≤ (cap : Int) := by omega
    have hcapM : (cap : Int) ≤ 9223372036854775807 := by have : maxLen = 9223372036854775807 := rfl; omega
    have HCM := Lib.hid hcap2
    clear hp h hc hok hroom hT hT2 hL h0 hn hcap2
    go_enter Try.func59, Try.ntmps59
    go_wp2
    go_loopw [13] (fun i wr => ∃ k : Nat, i = .int .i64 k ∧ k ≤ c.length ∧ wr = w ∧ Hid (∀ j, j < k → c[j]? = some c0)) (fun i _ => c.length - (intOf i).toNat)
    case atStart => exact ⟨0, rfl, by omega, rfl, fun j hj => by omega⟩
    case round =>
      obtain ⟨k, rfl, hle, rfl, HA⟩ := hrel
      by_cases hlt : k < c.length
      · obtain ⟨b', off', x, hbb, hx, hcx⟩ := HC.out.at hlt
        cases hbb
        by_cases hx0' : x = c0
        · subst hx0'
          have HA2 : Hid (∀ j, j < k + 1 → c[j]? = some x) := fun j hj => by
            rcases Nat.lt_or_ge j k with h | h
            · exact HA.out j h
            · obtain rfl : j = k := by omega
              exact hx.out
          have e2 : (x != x) = false := by simp
          clear HA
          go_wp2
          go_roundw
          case rel => exact ⟨k + 1, by go_num, by omega, trivial, HA2⟩
          case measure => simp [intOf]; omega
        · have e2 : (x != c0) = true := by simp [hx0']
          have hD := diff_at hx.out hx0' HA.out
          have HWS := Lib.hid (watchS_some (S := S) hx0.out hD)
          have HXX : Hid (x ≠ 0 ∧ x.natAbs ≤ m.n) := HOK.out _ (List.mem_of_getElem? hx.out)
          have HXN := Lib.hid hx0'
          obtain ⟨ca, cc, hcv⟩ := cvForm HP.out.cls
          have c3 : wr.cell? ⟨m.pb, 3, none⟩ = some (.slice ca S.cls.length cc) := by rw [← hcv]; exact HP.out.blk.cell rfl
          have f3 : wr.frozen? ⟨m.pb, 3, none⟩ = false := HP.out.blk.free 3
          obtain ⟨k1, hk1⟩ : ∃ k1, k + 1 = k1 := ⟨_, rfl⟩
          obtain ⟨ra, hra⟩ : ∃ ra : Option Addr, (if cap = k1 then some ⟨b, off, none⟩ else some ⟨b, off + k1, none⟩) = ra := ⟨_, rfl⟩
          have hw1 : IntKind.i64.wrap (↑k + 1) = (k1 : Int) := by rw [← hk1]; exact IntWalk.i64_in _ (by omega)
          have hk2 : (0 : Int) ≤ (k1 : Int) := by omega
          have hk3 : (k1 : Int) ≤ (c.length : Int) := by omega
          have HK1 := Lib.hid hk1
          have HRA := Lib.hid hra
          have HO : Hid (wr.ownsRow B 113 3 (.slice ca S.cls.length cc) S.cls.length vs) := by unfold Hid; rw [← hcv]; exact HP.out.cls
          have H7 : Hid (∀ w7 o, (wr.alloc o).drew.grownBy w7 (Value.slice ca S.cls.length cc).ownBlock → w7.cell? ⟨m.pb, 3, none⟩ = some (.slice ca S.cls.length cc) ∧ w7.frozen? ⟨m.pb, 3, none⟩ = false) := fun w7 o hg => by
            have hlt := HP.out.blk.lt
            have hb : w7.heap[m.pb]? = wr.heap[m.pb]? := (hg.block m.pb (by simp; omega) (fun e => by rw [← hcv] at e; exact (HP.out.coff _ e.symm).1 rfl)).trans ((boxed wr o).drew.block _ hlt)
            exact ⟨by rw [World.cell?_of_block hb]; exact c3, by rw [World.frozen?_of_block hb]; exact f3⟩
          have HSZ : Hid (S.cls.length + 1 ≤ maxLen ∧ (S.cls.length + 1) * 40 ≤ 140737488355328 ∧ ∀ o, B ≤ (wr.alloc o).drew.heap.size) := ⟨(roomy (by have := HL2.out; omega)).1, (roomy (by have := HL2.out; omega)).2.2, fun o => by have := HP.out.size; simp; omega⟩
          obtain ⟨j0, hj, hy0, hy1, hy2⟩ := info_parts Try.infoCl
          have c3a : (wr.alloc (.cells #[.int .i64 c0, .int .i64 x, .slice ra (c.length - k1) (cap - k1)] 113)).cell? ⟨m.pb, 3, none⟩ = some (.slice ca S.cls.length cc) := by
            rw [World.cell?_of_block (Below.heap_alloc wr _ m.pb HP.out.blk.lt)]; exact c3
          have HPUT : Hid (∀ (o : Obj) w7 g9 cap9, w7.ownsRow B 113 3 (.slice (some ⟨g9, 0, none⟩) (S.cls.length + 1) cap9) (S.cls.length + 1) (vs ++ [.int .i64 c0, .int .i64 x, .slice ra (c.length - k1) (cap - k1)]) → (wr.alloc o).drew.grownBy w7 (Value.slice ca S.cls.length cc).ownBlock → ((Value.slice ca S.cls.length cc).ownBlock = some g9 ∨ g9 = wr.heap.size + 1) →
              (∃ cv' vs', Hid (PR B m f cv' N s r vs' { S with cls := S.cls ++ [⟨c0, x, c.drop k1⟩] } (w7.setCell ⟨m.pb, 3, none⟩ (.slice (some ⟨g9, 0, none⟩) (S.cls.length + 1) cap9)))) ∧ Hid (Below B wr (w7.setCell ⟨m.pb, 3, none⟩ (.slice (some ⟨g9, 0, none⟩) (S.cls.length + 1) cap9)))) := by
            intro o w7 g9 cap9 hown hg hat
            rw [← hcv] at hg hat
            have hle' : k1 ≤ c.length := by omega
            have hdl : (c.drop k1).length = c.length - k1 := List.length_drop
            have hi : IntsR wr ra (c.drop k1) := by
              by_cases he : c.drop k1 = []
              · exact .inl (by rw [he]; rfl)
              · have hlt' : k1 < c.length := by have := List.length_pos_iff.2 he; omega
                rw [if_neg (by omega)] at hra
                rcases HC.out with h0 | ⟨b2, off2, hb2, hbs, hcc⟩
                · omega
                · cases hb2
                  rw [← hra]
                  refine .inr ⟨b, off + k1, rfl, hbs, fun j hj => ?_⟩
                  have := hcc (k1 + j) (by omega)
                  rw [Nat.add_assoc, this]
                  simp [List.getD_eq_getElem?_getD]
            have h1 := HP.out.clPut (e := ⟨c0, x, c.drop k1⟩) (c := cap - k1) (a := ra) (boxed wr o).drew (by rw [hdl]; exact hown) hg (hat.imp id fun h => by omega) hi (fun p hp => by rw [← hra] at hp; split at hp <;> (cases hp; exact hb)) (by rw [hdl]; omega) (by have := HCM.out; omega) (by rw [pot_snoc, hdl]; have := HT.out; omega)
            exact ⟨⟨_, _, h1.1⟩, h1.2⟩
          clear hcv hx0' hD HA hk1
          go_wp2
          go_cut [] from 28 to 46 (fun wc => (∃ cv' vs', Hid (PR B m f cv' N s r vs' { S with cls := S.cls ++ [⟨c0, x, c.drop k1⟩] } wc)) ∧ Hid (Below B wr wc))
          case first =>
            go_region_law ((refine step_append_lies _ (by rfl) _ _ 96 (by rfl) B 113 j0 (.agg #[.int .i64 0, .int .i64 0, .slice none 0 0]) 3 40 Try.underlying96 hj hy0 hy1 hy2 rfl (by omega) (.slice ca S.cls.length cc) S.cls.length vs (by rfl) ((World.ownsRow.alloc HO.out _).drew) ⟨wr.heap.size, 0, none⟩ 1 1 [.int .i64 c0, .int .i64 x, .slice ra (c.length - k1) (cap - k1)] (by rfl) (by rfl) (World.news_of_block (cs := #[.int .i64 c0, .int .i64 x, .slice ra (c.length - k1) (cap - k1)]) (t := 113) (fr := (0, 0)) (heap_alloc_new wr _)) three_one (by omega) HSZ.out.1 HSZ.out.2.1 (HSZ.out.2.2 _) (wr.heap.size + 1) (by simp) ?_; intro g9 cap9 w7 hown9 hgrow hat hlt; have c7 := (H7.out w7 _ hgrow).1; have f7 := (H7.out w7 _ hgrow).2))
            all_goals (go_wp2_with fail; go_meet; exact HPUT.out _ _ _ _ hown9 hgrow hat)
          case rest =>
            obtain ⟨wb, hwb⟩ : ∃ wb : World, wb = wc := ⟨wc, rfl⟩
            subst hwb
            obtain ⟨⟨cv1, vs1, HP1⟩, HB1⟩ := hcut
            clear H7 HSZ c3a HPUT c3 f3 hj hy0 hy1 hy2 HO hra
            -- the first watched literal
            have hpc : N + 1 + potC (S.cls ++ [⟨c0, x, c.drop k1⟩]) ≤ m.T ∧ N + 1 + 1 + potC (S.cls ++ [⟨c0, x, c.drop k1⟩]) ≤ m.T ∧ N + 1 + 1 + potC (S.cls ++ [⟨c0, x, c.drop k1⟩]) ≤ N + potC S.cls + c.length := by
              rw [pot_snoc, List.length_drop]
              have := HT.out
              have hk0 : 0 < k := by
                rcases Nat.eq_zero_or_pos k with h0 | h0
                · exfalso; subst h0; have h1 := hx.out; rw [hx0.out] at h1; exact HXN.out (by injection h1 with h1; exact h1.symm)
                · exact h0
              have := HK1.out
              omega
            have HPC := Lib.hid hpc
            have hc0r : Rng c0 := by have h1 := HC0.out.2; have h2 := HN.out; constructor <;> omega
            have hxr : Rng x := by have h1 := HXX.out.2; have h2 := HN.out; constructor <;> omega
            have hcx1 : wb.cell? ⟨b, off, none⟩ = some (.int .i64 c0) := by rw [HB1.out.cell (p := ⟨b, off, none⟩) hb.1]; exact hcx0
            have hc2 : wb.cell? ⟨m.pb, 2, none⟩ = some (.map (some m.mb)) := HP1.out.blk.cell rfl
            obtain ⟨i0, hi, hz0, hz1, hz2⟩ := info_parts Try.info3
            have hl1 := HP1.out.look (w' := wb.drew) rfl hc0r
            have hl2 := HP1.out.look (w' := (wb.alloc (.cells #[.int .i64 S.cls.length] 3)).drew) ((boxed wb _).drew.block _ HP1.out.map.lt) hc0r
            have HC0R := Lib.hid hc0r
            have HXR := Lib.hid hxr
            have HW9 : Hid ((S.watch c0).length + 1 ≤ maxLen ∧ ((S.watch c0).length + 1) * 8 ≤ 140737488355328 ∧ ∀ o, B ≤ (wb.alloc o).drew.heap.size) := ⟨(roomy (by have := HP1.out.wlen c0; have := HT2.out; have := HP1.out.pot; dsimp only at *; omega)).1, (roomy (by have := HP1.out.wlen c0; have := HT2.out; have := HP1.out.pot; dsimp only at *; omega)).2.1, fun o => by have := HP1.out.size; simp; omega⟩
            have HS0 : Hid (wb.drew.cell? ⟨m.pb, 2, none⟩ = some (.map (some m.mb)) ∧ wb.drew.cell? ⟨b, off, none⟩ = some (.int .i64 c0)) := ⟨hc2, hcx1⟩
            have hbl := HB1.out.size
            have HS1 : Hid (∀ o, (wb.alloc o).drew.cell? ⟨m.pb, 2, none⟩ = some (.map (some m.mb)) ∧ (wb.alloc o).drew.cell? ⟨b, off, none⟩ = some (.int .i64 c0)) := fun o =>
              ⟨by rw [World.cell?_of_block ((boxed wb o).drew.block m.pb HP1.out.blk.lt)]; exact hc2, by rw [World.cell?_of_block ((boxed wb o).drew.block b (by omega))]; exact hcx1⟩
            have HS2 : Hid (∀ o w7, (wb.alloc o).drew.grownBy w7 (f c0).ownBlock → w7.cell? ⟨m.pb, 2, none⟩ = some (.map (some m.mb)) ∧ w7.cell? ⟨b, off, none⟩ = some (.int .i64 c0)) := fun o w7 hg =>
              ⟨by rw [World.cell?_of_block ((hg.block m.pb (by simp; have := HP1.out.blk.lt; omega) (fun e => (HP1.out.off c0 m.pb e.symm).1 rfl)))]; exact (HS1.out o).1,
               by rw [World.cell?_of_block ((hg.block b (by simp; omega) (fun e => by have := ((HP1.out.rows c0).lt b e.symm).1; omega)))]; exact (HS1.out o).2⟩
            have HS3 : Hid (∀ o w7 w8, (wb.alloc o).drew.grownBy w7 (f c0).ownBlock → w7.grownBy w8 (some m.mb) → w8.cell? ⟨m.pb, 2, none⟩ = some (.map (some m.mb)) ∧ w8.cell? ⟨b, off, none⟩ = some (.int .i64 c0)) := fun o w7 w8 hg hg2 =>
              ⟨by rw [World.cell?_of_block ((hg2.block m.pb (Nat.lt_of_lt_of_le (by simp; have := HP1.out.blk.lt; omega) hg.size) (fun e => HP1.out.d3 (by injection e))))]; exact (HS2.out o w7 hg).1,
               by rw [World.cell?_of_block ((hg2.block b (Nat.lt_of_lt_of_le (by simp; omega) hg.size) (fun e => by injection e with e; have := HP1.out.hm; omega)))]; exact (HS2.out o w7 hg).2⟩
            clear hcx1 hc2 hpc hc0r hxr
            go_wp2
            go_cut [] from 47 to 64 (fun wd => Hid (∃ f', PR B m f' cv1 (N + 1) s r vs1 { S with cls := S.cls ++ [⟨c0, x, c.drop k1⟩], watch := upd S.watch c0 (S.watch c0 ++ [(S.cls.length : Int)]) } wd ∧ ∀ z, z ≠ c0 → f' z = f z) ∧ Hid (Below B wb wd))
            case first =>
              go_region_held3 (fun w' => w'.cell? ⟨m.pb, 2, none⟩ = some (.map (some m.mb)) ∧ w'.cell? ⟨b, off, none⟩ = some (.int .i64 c0)) (first | exact HS0.out | exact HS1.out _ | exact HS2.out _ _ hgrow | exact HS3.out _ _ _ hgrow hg2)
                ((refine step_append_lies _ (by rfl) _ _ 23 (by rfl) B 3 i0 (.int .i64 0) 1 8 Try.underlying23 hi hz0 hz1 hz2 rfl (by omega) (f c0) (S.watch c0).length ((S.watch c0).map (Value.int .i64)) (by rfl) ((World.ownsRow.alloc (HP1.out.rows c0) _).drew) ⟨wb.heap.size, 0, none⟩ 1 1 [.int .i64 S.cls.length] (by rfl) (by rfl) (World.news_of_block (cs := #[.int .i64 S.cls.length]) (t := 3) (fr := (0, 0)) (heap_alloc_new wb _)) one_int (by omega) HW9.out.1 HW9.out.2.1 (HW9.out.2.2 _) (wb.heap.size + 1) (by simp) ?_; intro g9 cap9 w7 hown9 hgrow hat hlt9; obtain ⟨w8, hrun8, hg2, HP8, HB8⟩ := HP1.out.put HPC.out.1 HT2.out HC0R.out hown9 hgrow hat))
              all_goals (go_wp2_with fail; go_meet; exact ⟨HP8, HB8⟩)
            case rest =>
              obtain ⟨wd, hwd⟩ : ∃ wd : World, wd = wc := ⟨wc, rfl⟩
              subst hwd
              obtain ⟨HPE, HB2⟩ := hcut
              obtain ⟨f2, HP2⟩ := HPE.out
              have HP3 := Lib.hid HP2.1
              clear HS0 HS1 HS2 HS3 HW9 hl1 hl2 HP1 HPE HP2
              generalize hS2 : ({ S with cls := S.cls ++ [⟨c0, x, c.drop k1⟩], watch := upd S.watch c0 (S.watch c0 ++ [(S.cls.length : Int)]) } : St) = S2 at HP3
              have hSc : S2.cls = S.cls ++ [⟨c0, x, c.drop k1⟩] := by rw [← hS2]
              have HPC2 : Hid (N + 1 + 1 + potC S2.cls ≤ m.T ∧ N + 1 + 1 + potC S2.cls ≤ N + potC S.cls + c.length) := by unfold Hid; rw [hSc]; exact HPC.out.2
              have HFIN : Hid ((watchS S c) = ({ S2 with watch := upd S2.watch x (S2.watch x ++ [(S.cls.length : Int)]) }, true)) := by
                unfold Hid
                rw [HWS.out, ← hS2, HK1.out]
                dsimp only
                rw [upd_other _ _ HXN.out]
              have HSC := Lib.hid hSc
              have hc2 : wd.cell? ⟨m.pb, 2, none⟩ = some (.map (some m.mb)) := HP3.out.blk.cell rfl
              have hl1 := HP3.out.look (w' := wd.drew) rfl HXR.out
              have hl2 := HP3.out.look (w' := (wd.alloc (.cells #[.int .i64 S.cls.length] 3)).drew) ((boxed wd _).drew.block _ HP3.out.map.lt) HXR.out
              have HW9 : Hid ((S2.watch x).length + 1 ≤ maxLen ∧ ((S2.watch x).length + 1) * 8 ≤ 140737488355328 ∧ ∀ o, B ≤ (wd.alloc o).drew.heap.size) := ⟨(roomy (by have := HP3.out.wlen x; have := HT2.out; have := HP3.out.pot; omega)).1, (roomy (by have := HP3.out.wlen x; have := HT2.out; have := HP3.out.pot; omega)).2.1, fun o => by have := HP3.out.size; simp; omega⟩
              have HS0 : Hid (wd.drew.cell? ⟨m.pb, 2, none⟩ = some (.map (some m.mb))) := hc2
              have HS1 : Hid (∀ o, (wd.alloc o).drew.cell? ⟨m.pb, 2, none⟩ = some (.map (some m.mb))) := fun o => by
                unfold Hid at *
                rw [World.cell?_of_block ((boxed wd o).drew.block m.pb HP3.blk.lt)]; exact hc2
              have HS2 : Hid (∀ o w7, (wd.alloc o).drew.grownBy w7 (f2 x).ownBlock → w7.cell? ⟨m.pb, 2, none⟩ = some (.map (some m.mb))) := fun o w7 hg => by
                rw [World.cell?_of_block ((hg.block m.pb (by simp; have := HP3.out.blk.lt; omega) (fun e => (HP3.out.off x m.pb e.symm).1 rfl)))]; exact HS1.out o
              have HS3 : Hid (∀ o w7 w8, (wd.alloc o).drew.grownBy w7 (f2 x).ownBlock → w7.grownBy w8 (some m.mb) → w8.cell? ⟨m.pb, 2, none⟩ = some (.map (some m.mb))) := fun o w7 w8 hg hg2 => by
                rw [World.cell?_of_block ((hg2.block m.pb (Nat.lt_of_lt_of_le (by simp; have := HP3.out.blk.lt; omega) hg.size) (fun e => HP3.out.d3 (by injection e))))]; exact HS2.out o w7 hg
              have HBB := Lib.hid (HB1.out.trans HB2.out)
              clear hS2 hSc hc2 HWS HB1 HB2
              go_wp2
              go_cut [] from 65 to 78 (fun we => Hid (∃ f', PR B m f' cv1 (N + 1 + 1) s r vs1 { S2 with watch := upd S2.watch x (S2.watch x ++ [(S.cls.length : Int)]) } we ∧ ∀ z, z ≠ x → f' z = f2 z) ∧ Hid (Below B wd we))
              case first =>
                go_region_held3 (fun w' => w'.cell? ⟨m.pb, 2, none⟩ = some (.map (some m.mb))) (first | exact HS0.out | exact HS1.out _ | exact HS2.out _ _ hgrow | exact HS3.out _ _ _ hgrow hg2)
                  ((refine step_append_lies _ (by rfl) _ _ 23 (by rfl) B 3 i0 (.int .i64 0) 1 8 Try.underlying23 hi hz0 hz1 hz2 rfl (by omega) (f2 x) (S2.watch x).length ((S2.watch x).map (Value.int .i64)) (by rfl) ((World.ownsRow.alloc (HP3.out.rows x) _).drew) ⟨wd.heap.size, 0, none⟩ 1 1 [.int .i64 S.cls.length] (by rfl) (by rfl) (World.news_of_block (cs := #[.int .i64 S.cls.length]) (t := 3) (fr := (0, 0)) (heap_alloc_new wd _)) one_int (by omega) HW9.out.1 HW9.out.2.1 (HW9.out.2.2 _) (wd.heap.size + 1) (by simp) ?_; intro g9 cap9 w7 hown9 hgrow hat hlt9; obtain ⟨w8, hrun8, hg2, HP8, HB8⟩ := HP3.out.put HPC2.out.1 HT2.out HXR.out hown9 hgrow hat))
                all_goals (go_wp2_with fail; go_meet; exact ⟨HP8, HB8⟩)
              case rest =>
                obtain ⟨HPE, HB2⟩ := hcut
                obtain ⟨f3, HP4, _⟩ := HPE.out
                have HP5 := Lib.hid HP4
                clear HS0 HS1 HS2 HS3 HW9 hl1 hl2 HP3 HPE HP4
                go_wp2
                go_ret
                rw [HFIN.out]
                exact ⟨rfl, ⟨_, _, _, _, _, HP5.out, HPC2.out.2⟩, HBB.out.trans HB2.out⟩
      · have HE := Lib.hid (watchS_none (S := S) hx0.out (diff_all (c0 := c0) (l := c) fun j hj => HA.out j (by omega)))
        clear HA
        go_wp2_with fail
        refine (learn_any HP.out HC0.out.2 HN.out (fun h => HR.out _ (List.mem_of_getElem? hx0.out) h)).mono ?_
        rintro e w' ⟨rfl, ⟨s', HP2⟩, HB⟩
        have HP3 := Lib.hid HP2
        have HB2 := Lib.hid HB
        clear HP2 HB
        go_wp2
        go_ret
        rw [HE.out]
        refine ⟨rfl, ⟨_, _, _, _, _, HP3.out, ?_⟩, HB2.out⟩
        have : (learnS S c0).1.cls = S.cls := by unfold learnS; split <;> rfl
        rw [this]
        omega
end Go.Proofs.Ytbljkbdbiceokaa
