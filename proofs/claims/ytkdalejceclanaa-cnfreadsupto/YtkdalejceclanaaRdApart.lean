/-
  given.apart: what is appended behind each list leaves the others as they are.
-/
import Derived.Test.YtkdalejceclanaaRdTake
namespace Go.Proofs.Ytkdalejceclanaa
open Go.RowKit
set_option linter.unusedVariables false
/-- The first k lists have one element more, in blocks apart from the other lists'. -/
def AP (w : World) (B n k : Nat) (vs : Nat → Value) (cs : Nat → List Int) (mv : Nat → Value) : Prop :=
  (∀ j, j < k → w.ownsRow B 3 1 (mv j) ((cs j).length + 1) (rowI (cs j ++ [-9000 - (j : Int)]))) ∧ ∀ j i, j < k → k ≤ i → i < n → (mv j).ownBlock = none ∨ (mv j).ownBlock ≠ (vs i).ownBlock
theorem AP.zero (w : World) (B n : Nat) (vs : Nat → Value) (cs : Nat → List Int) (mv : Nat → Value) : AP w B n 0 vs cs mv := ⟨fun j hj => absurd hj (Nat.not_lt_zero _), fun j i hj => absurd hj (Nat.not_lt_zero _)⟩
theorem AP.ch {w w' : World} {B B' n k : Nat} {q : Nat → TypeId → Bool} {vs : Nat → Value} {cs : Nat → List Int} {mv : Nat → Value} (h : AP w B n k vs cs mv) (c : Ch B' q w w') (hq : ∀ g, q g 3 = false) : AP w' B n k vs cs mv :=
  ⟨fun j hj => c.row (h.1 j hj) (fun g _ => hq g), h.2⟩
/-- One list more has grown. -/
theorem AP.push {w w' : World} {B n k g cap : Nat} {vs : Nat → Value} {cs : Nat → List Int} {mv : Nat → Value} (h : AP w B n k vs cs mv) (F : Fam w B n vs cs) (hk : k < n)
    (hn : w'.ownsRow B 3 1 (.slice (some ⟨g, 0, none⟩) ((cs k).length + 1) cap) ((cs k).length + 1) (rowI (cs k) ++ [.int .i64 (-9000 - (k : Int))])) (ho : w'.ownsRow B 3 1 (vs k) (cs k).length (rowI (cs k))) (hg : w.grownBy w' (vs k).ownBlock) (hb : (vs k).ownBlock = some g ∨ w.heap.size ≤ g) :
    AP w' B n (k + 1) vs cs (updF mv k (.slice (some ⟨g, 0, none⟩) ((cs k).length + 1) cap)) ∧ Fam w' B n vs cs := by
  refine ⟨⟨fun j hj => ?_, fun j i hj hi hin => ?_⟩, ⟨fun i hi => ?_, F.2⟩⟩
  · by_cases e : j = k
    · subst e
      rw [updF_same]
      have er : rowI (cs j ++ [-9000 - (j : Int)]) = rowI (cs j) ++ [.int .i64 (-9000 - (j : Int))] := by unfold rowI; rw [List.map_append]; rfl
      rw [er]
      exact hn
    · rw [updF_other _ _ _ e]
      exact (h.1 j (by omega)).kept hg (h.2 j k (by omega) (Nat.le_refl _) hk)
  · by_cases e : j = k
    · subst e
      rw [updF_same]
      rcases hb with c | c
      · have := F.2 j i hk hin (by omega)
        rw [c] at this
        exact this
      · refine .inr (fun d => ?_)
        have := ((F.1 i hin).lt g d.symm).2
        omega
    · rw [updF_other _ _ _ e]
      exact h.2 j i (by omega) (by omega) hin
  · by_cases e : i = k
    · subst e
      exact ho
    · exact (F.1 i hi).kept hg (F.2 i k hi hk e)
theorem map_updF {k : Nat} (mv : Nat → Value) (x : Value) : (List.range k).map (updF mv k x) = (List.range k).map mv := by
  refine List.map_congr_left fun j hj => ?_
  exact updF_other _ _ _ (Nat.ne_of_lt (List.mem_range.1 hj))
theorem map_push {k : Nat} (mv : Nat → Value) (x : Value) : (List.range (k + 1)).map (updF mv k x) = (List.range k).map mv ++ [x] := by
  rw [List.range_succ, List.map_append, map_updF, List.map_singleton, updF_same]
theorem get_map {n j : Nat} (vs : Nat → Value) (h : j < n) : ((List.range n).map vs)[j]? = some (vs j) := by
  rw [List.getElem?_map, List.getElem?_range h]; rfl
theorem alloc_cell {w : World} {p : Addr} {v : Value} (o : Obj) (h : w.cell? p = some v) : (w.alloc o).cell? p = some v :=
  (((Below.refl w.heap.size w).alloc (Nat.le_refl _) o).cell (p := p) (World.block_lt_of_cell? _ _ h)).trans h
set_option maxRecDepth 100000 in
set_option maxHeartbeats 16000000 in
theorem gapart_calls (w : World) (B gb n : Nat) (vs : Nat → Value) (cs : Nat → List Int) (lv : Value) (F : Fam w B n vs cs) (G : GS gb w lv (.slice none 0 0) ((List.range n).map vs) []) (hB : B ≤ gb) (hn : n ≤ 1099511627776) (hl : ∀ i, i < n → (cs i).length ≤ 1099511627776) (hc : ∀ i, i < n → cs i = List.replicate (cs i).length (-9000 - (i : Int))) :
    Calls Try.prog 56 #[.pointer (some ⟨gb, 0, none⟩)] w fun e w' => e = .returned (.bool true) ∧ Below B w w' := by
  obtain ⟨i0, hi, hz0, hz1, hz2⟩ := rinfo_parts rInfoInt
  obtain ⟨i1, ki, kz0, kz1, kz2⟩ := rinfo_parts rInfoInts
  have ln : ((List.range n).map vs).length = n := by simp
  obtain ⟨al, kl, hlv⟩ := row_slice G.2.1
  rw [ln] at hlv
  subst hlv
  have A0 := hide (AP.zero w B n vs cs vs)
  have G0 := hide G
  have F0 := hide F
  have C0 := hide (Ch.refl B (qG gb) w)
  have glt := G.lt
  replace hl := hide hl
  replace hc := hide hc
  clear G F
  go_enter Try.func56, Try.ntmps56
  go_wp2_with fail
  go_loopw [3] (fun x wr => ∃ (k : Nat) (mf : Nat → Value) (mv : Value), x = .int .i64 (k : Int) ∧ k ≤ n ∧ Hid (Fam wr B n vs cs) ∧ Hid (AP wr B n k vs cs mf) ∧ Hid (GS gb wr (.slice al n kl) mv ((List.range n).map vs) ((List.range k).map mf)) ∧ Hid (Ch B (qG gb) w wr)) (fun x _ => n - (intOf x).toNat)
  case atStart => exact ⟨0, vs, .slice none 0 0, rfl, Nat.zero_le _, F0, A0, G0, C0⟩
  case round =>
    clear F0 A0 G0 C0
    obtain ⟨k, mf, mv, rfl, hk, FF, AA, GG, CC⟩ := hrel
    obtain ⟨am, km, hmv⟩ := row_slice GG.out.2.2.1
    rw [show ((List.range k).map mf).length = k by simp] at hmv
    subst hmv
    obtain ⟨c0, c1, z0, z1⟩ := GG.out.cells
    by_cases hlt : k < n
    · have rl := GG.out.2.1
      rw [ln] at rl
      obtain ⟨gl, rfl⟩ := own_form rl (by omega)
      have ck := rl.cellAt k (by omega)
      rw [get_map vs hlt] at ck
      obtain ⟨av, cv, hv⟩ := FF.out.slice hlt
      rw [hv] at ck
      have k0 : (0 : Int) ≤ (k : Int) := by omega
      have k1 : (k : Int) < (n : Int) := by omega
      go_upto_region 4 with fail
      obtain ⟨l, hl0⟩ : ∃ l, cs k = l := ⟨_, rfl⟩
      have lb := hl.out k hlt
      obtain ⟨mz, hmz⟩ : ∃ z : Int, -9000 - (k : Int) = z := ⟨_, rfl⟩
      have RK := FF.out.1 k hlt
      rw [hv] at RK
      rw [hl0] at ck lb RK hv
      have kz' : IntKind.i64.wrap (-9000 - (k : Int)) = mz := by rw [IntKind.wrap_i64]; omega
      have hB1 : B ≤ wr.heap.size := by have := CC.out.bel.size; omega
      have lenk : ((List.range k).map mf).length = k := by simp
      have OA : Hid ((wr.alloc (.cells #[.int .i64 mz] 3)).drew.ownsRow B 3 1 (.slice av l.length cv) l.length (rowI l)) := World.ownsRow.alloc RK _
      have CA : Hid (∀ j u, ([.int .i64 mz] : List Value)[j]? = some u → (wr.alloc (.cells #[.int .i64 mz] 3)).drew.cell? ((⟨wr.heap.size, 0, none⟩ : Addr).add j) = some u) := rcell_one wr (.int .i64 mz) 3
      have C1 : Ch B (fun _ _ => false) wr (wr.alloc (.cells #[.int .i64 mz] 3)).drew := (Ch.alloc (Ch.refl B _ wr) hB1 _).drewN 1
      have P5 : Hid (∀ g5 cap5 w5, w5.ownsRow B 3 1 (.slice (some ⟨g5, 0, none⟩) (l.length + 1) cap5) (l.length + 1) (rowI l ++ [.int .i64 mz]) → w5.ownsRow B 3 1 (.slice av l.length cv) l.length (rowI l) → (wr.alloc (.cells #[.int .i64 mz] 3)).drew.grownBy w5 (Value.slice av l.length cv).ownBlock → ((Value.slice av l.length cv).ownBlock = some g5 ∨ g5 = (wr.alloc (.cells #[.int .i64 mz] 3)).drew.heap.size) →
          AP w5 B n (k + 1) vs cs (updF mf k (.slice (some ⟨g5, 0, none⟩) (l.length + 1) cap5)) ∧ Fam w5 B n vs cs ∧ GS gb w5 (.slice (some ⟨gl, 0, none⟩) n kl) (.slice am k km) ((List.range n).map vs) ((List.range k).map mf) ∧ Ch B (qG gb) w w5) := by
        intro g5 cap5 w5 o5 p5 gr5 b5
        have FA := FF.out.ch C1 (fun _ => rfl)
        have AA1 := AA.out.ch C1 (fun _ => rfl)
        have GG1 := GG.out.ch C1 (fun _ _ _ => rfl)
        have CC1 := CC.out.trans (C1.mono (p := qG gb) (fun _ _ _ => rfl))
        have C5 : Ch B qI _ w5 := Ch.of_grown (q := qI) OA.out (Nat.le_refl B) (by have := C1.bel.size; omega) (fun g _ => by unfold qI; simp) gr5
        obtain ⟨x1, x2⟩ := AA1.push (w' := w5) (g := g5) (cap := cap5) FA hlt (by rw [hl0, hmz]; exact o5) (by rw [hv, hl0]; exact p5) (by rw [hv]; exact gr5) (by
          rw [hv]
          rcases b5 with b | b
          · exact .inl b
          · exact .inr (Nat.le_of_eq b.symm))
        rw [hl0] at x1
        exact ⟨x1, x2, GG1.ch C5 (fun g t ht => by unfold qI; exact ht), CC1.trans (C5.mono (fun g t h => qI_G h))⟩
      have P6 : Hid (∀ (w5 w6 : World) (x : Value) g6 cap6, GS gb w5 (.slice (some ⟨gl, 0, none⟩) n kl) (.slice am k km) ((List.range n).map vs) ((List.range k).map mf) → w6.ownsRow (gb + 1) 23 1 (.slice (some ⟨g6, 0, none⟩) (k + 1) cap6) (k + 1) ((List.range k).map mf ++ [x]) → (w5.alloc (.cells #[x] 23)).grownBy w6 (Value.slice am k km).ownBlock → ((Value.slice am k km).ownBlock = some g6 ∨ g6 = (w5.alloc (.cells #[x] 23)).heap.size) →
          GS gb (w6.setCell ⟨gb, 1, none⟩ (.slice (some ⟨g6, 0, none⟩) (k + 1) cap6)) (.slice (some ⟨gl, 0, none⟩) n kl) (.slice (some ⟨g6, 0, none⟩) (k + 1) cap6) ((List.range n).map vs) ((List.range k).map mf ++ [x]) ∧ Ch B (qL gb) w5 (w6.setCell ⟨gb, 1, none⟩ (.slice (some ⟨g6, 0, none⟩) (k + 1) cap6)) ∧ w6.cell? ⟨gb, 1, none⟩ = some (.slice am k km) ∧ w6.frozen? ⟨gb, 1, none⟩ = false) := by
        intro w5 w6 x g6 cap6 h5 o6 gr6 b6
        exact h5.put1 (B := B) hB (by rw [lenk]; exact o6) gr6 (by
          rcases b6 with b | b
          · exact .inl b.symm
          · exact .inr (congrArg some b))
      have R5 : Hid (∀ w5, GS gb w5 (.slice (some ⟨gl, 0, none⟩) n kl) (.slice am k km) ((List.range n).map vs) ((List.range k).map mf) → w5.ownsRow (gb + 1) 23 1 (.slice am k km) k ((List.range k).map mf)) := fun w5 h => by
        have := h.2.2.1
        rw [lenk] at this
        exact this
      have bd := hide (And.intro lb (And.intro hn (And.intro hlt (And.intro hB1 (And.intro glt CC.out.bel.size)))))
      have AK : ∀ (p : Addr) (v : Value), wr.cell? p = some v → (wr.alloc (.cells #[.int .i64 mz] 3)).cell? p = some v := fun p v h => (((Below.refl wr.heap.size wr).alloc (Nat.le_refl _) (.cells #[.int .i64 mz] 3)).cell (p := p) (World.block_lt_of_cell? _ _ h)).trans h
      have c0' := AK _ _ c0
      have c1' := AK _ _ c1
      have ck' := AK _ _ ck
      have c0d : (wr.alloc (.cells #[.int .i64 mz] 3)).drew.cell? ⟨gb, 0, none⟩ = some (.slice (some ⟨gl, 0, none⟩) n kl) := c0'
      have c1d : (wr.alloc (.cells #[.int .i64 mz] 3)).drew.cell? ⟨gb, 1, none⟩ = some (.slice am k km) := c1'
      have ckd : (wr.alloc (.cells #[.int .i64 mz] 3)).drew.cell? ⟨gl, k, none⟩ = some (.slice av l.length cv) := ck'
      clear RK hl0 hv hmz C1 FF AA CC GG rl lenk z0 z1 AK
      go_region_law (first
        | (refine step_append_keeps rfl (.tmp 26) (.tmp 29) 23 rfl B 3 i0 (.int .i64 0) 1 8 rSliceInt hi hz0 hz1 hz2 rfl (by decide) (.slice av l.length cv) l.length (rowI l) (by simp [Act.eval]) OA.out ⟨wr.heap.size, 0, none⟩ 1 1 [.int .i64 mz] (by simp [Act.eval]) rfl CA.out (by simp [Value.oneCell']) (by have := bd.out.1; unfold maxLen; omega) (by have := bd.out.1; omega) (by have := bd.out.2.2.2.1; simp; omega) (by decide) ?_; intro g5 cap5 w5 o5 p5 gr5 b5; obtain ⟨A5, F5, G5, C5⟩ := P5.out _ _ _ o5 p5 gr5 b5; clear o5 p5 gr5 b5; obtain ⟨e0, e1, y0, y1⟩ := G5.cells; have e1' := alloc_cell (.cells #[.slice (some ⟨g5, 0, none⟩) (l.length + 1) cap5] 23) e1; replace A5 := hide A5; replace F5 := hide F5; have O5 := hide (World.ownsRow.alloc (R5.out _ G5) (.cells #[.slice (some ⟨g5, 0, none⟩) (l.length + 1) cap5] 23)); have K5 := hide (rcell_one w5 (.slice (some ⟨g5, 0, none⟩) (l.length + 1) cap5) 23); have L5 := hide G5.lt; replace G5 := hide G5; replace C5 := hide C5)
        | (refine step_append_keeps rfl (.tmp 19) (.tmp 31) 22 rfl (gb + 1) 23 i1 (.slice none 0 0) 1 24 rSliceInts ki kz0 kz1 kz2 rfl (by decide) (.slice am k km) k ((List.range k).map mf) (by simp [Act.eval]) O5.out ⟨w5.heap.size, 0, none⟩ 1 1 [.slice (some ⟨g5, 0, none⟩) (l.length + 1) cap5] (by simp [Act.eval]) rfl K5.out (by simp [Value.oneCell']) (by have := bd.out.2.1; have := bd.out.2.2.1; unfold maxLen; omega) (by have := bd.out.2.1; have := bd.out.2.2.1; omega) (by have := L5.out; simp; omega) (by decide) ?_; intro g6 cap6 w6 o6 p6 gr6 b6; obtain ⟨G6, C6, f1, x1⟩ := P6.out _ _ _ _ _ G5.out o6 gr6 b6; clear o6 p6 gr6 b6; replace G6 := hide G6; replace C6 := hide C6))
      all_goals
        have A6 := hide (A5.out.ch C6.out (fun g => by unfold qL; simp))
        have F6 := hide (F5.out.ch C6.out (fun g => by unfold qL; simp))
        have C7 := hide (C5.out.trans (C6.out.mono (p := qG gb) (fun g t h => qL_G h)))
        go_wp2_with fail
        go_roundw
        case rel => exact ⟨k + 1, updF mf k (.slice (some ⟨g5, 0, none⟩) (l.length + 1) cap5), _, by go_num, by omega, F6, A6, by rw [map_push]; exact G6, C7⟩
        case measure => simp [intOf]; omega
    · have hkn : k = n := by omega
      subst hkn
      have BB := hide CC.out.bel
      have lenm : ((List.range k).map mf).length = k := by simp
      have rm := GG.out.2.2.1
      rw [lenm] at rm
      have rl := GG.out.2.1
      rw [ln] at rl
      replace rm := hide rm
      replace rl := hide rl
      clear hlt hk CC GG z0 z1
      go_wp2_with fail
      go_loop [4] (fun x => ∃ p : Nat, x = .int .i64 (p : Int) ∧ p ≤ k) (fun x => k - (intOf x).toNat)
      case atStart => exact ⟨0, rfl, Nat.zero_le _⟩
      case round =>
        obtain ⟨p, rfl, hp⟩ := hrel
        by_cases hlp : p < k
        · obtain ⟨gl, rfl⟩ := own_form rl.out (by omega)
          obtain ⟨gm, rfl⟩ := own_form rm.out (by omega)
          have cl := rl.out.cellAt p (by omega)
          rw [get_map vs hlp] at cl
          have cm := rm.out.cellAt p (by omega)
          rw [get_map mf hlp] at cm
          have rv := FF.out.1 p hlp
          have rq := AA.out.1 p hlp
          obtain ⟨av, cv, hv⟩ := row_slice rv
          obtain ⟨aq, cq, hq0⟩ := row_slice rq
          have hcp := hc.out p hlp
          have lbp := hl.out p hlp
          rw [hv] at cl rv
          rw [hq0] at cm rq
          obtain ⟨gq, rfl⟩ := own_form rq (by omega)
          obtain ⟨mz, hmz⟩ : ∃ z : Int, -9000 - (p : Int) = z := ⟨_, rfl⟩
          have kz' : IntKind.i64.wrap (-9000 - (p : Int)) = mz := by rw [IntKind.wrap_i64]; omega
          have kz'' : wrap64 (-9000 - (p : Int)) = mz := by unfold wrap64; omega
          rw [hmz] at hcp rq
          obtain ⟨l, hl0⟩ : ∃ l, (cs p).length = l := ⟨_, rfl⟩
          rw [hl0] at hcp rq rv lbp cl cm
          rw [hcp] at rq rv
          have CM : Hid (∀ q, q < l + 1 → wr.cell? ⟨gq, q, none⟩ = some (.int .i64 mz)) := by
            intro q hq
            have := rq.cellAt q (by omega)
            rw [this]
            unfold rowI
            rw [List.getElem?_map]
            by_cases e : q < l
            · rw [List.getElem?_append_left (by simpa using e), List.getElem?_replicate, if_pos e]; rfl
            · rw [List.getElem?_append_right (by simp; omega), List.length_replicate, show q - l = 0 by omega]; rfl
          have CL : Hid (∀ q, q < l → ∃ g, av = some ⟨g, 0, none⟩ ∧ wr.cell? ⟨g, q, none⟩ = some (.int .i64 mz)) := by
            intro q hq
            obtain ⟨g, rfl⟩ := own_form rv (by omega)
            refine ⟨g, rfl, ?_⟩
            have := rv.cellAt q (by omega)
            rw [this]
            unfold rowI
            rw [List.getElem?_map, List.getElem?_replicate, if_pos hq]; rfl
          have p0 : (0 : Int) ≤ (p : Int) := by omega
          have p1 : (p : Int) < (k : Int) := by omega
          clear rv rq hcp hl0 hv hq0 hmz
          go_wp2_with fail
          go_loop [5] (fun x => ∃ q : Nat, x = .int .i64 (q : Int) ∧ q ≤ l + 1) (fun x => l + 1 - (intOf x).toNat)
          case atStart => exact ⟨0, rfl, Nat.zero_le _⟩
          case round =>
            obtain ⟨q, rfl, hq⟩ := hrel
            by_cases hlq : q < l + 1
            · have cmq := CM.out q hlq
              have q0 : (0 : Int) ≤ (q : Int) := by omega
              have q1 : (q : Int) < (l : Int) + 1 := by omega
              have mm : (mz != mz) = false := by simp
              by_cases h2 : q < l
              · obtain ⟨g, rfl, clq⟩ := CL.out q h2
                have q2 : decide ((q : Int) < (l : Int)) = true := decide_eq_true (by omega)
                have q2' : (q : Int) < (l : Int) := by omega
                go_wp2_with fail
                go_round
                case rel => exact ⟨q + 1, by go_num, by omega⟩
                case measure => simp [intOf]; omega
              · have q2 : decide ((q : Int) < (l : Int)) = false := decide_eq_false (by omega)
                have q2' : ¬ (q : Int) < (l : Int) := by omega
                go_wp2_with fail
                go_round
                case rel => exact ⟨q + 1, by go_num, by omega⟩
                case measure => simp [intOf]; omega
            · have q1 : ¬ (q : Int) < (l : Int) + 1 := by omega
              go_wp2_with fail
              go_round
              case rel => exact ⟨p + 1, by go_num, by omega⟩
              case measure => simp [intOf]; omega
        · have p1 : ¬ (p : Int) < (k : Int) := by omega
          go_wp2_with fail
          go_ret
          exact ⟨rfl, BB.out⟩
end Go.Proofs.Ytkdalejceclanaa
