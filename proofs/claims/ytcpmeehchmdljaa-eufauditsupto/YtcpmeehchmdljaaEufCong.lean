/-
  euf: congruent.
-/
import Derived.Test.YtcpmeehchmdljaaEufMem
import Derived.BigRegion
namespace Go.Proofs.Ytcpmeehchmdljaa
open Go.RowKit
set_option linter.unusedVariables false
theorem alloc_bel (w : World) (o : Obj) : Below w.heap.size w (w.alloc o) := (Below.refl _ w).alloc (Nat.le_refl _) _
theorem setG (w : World) (g j : Nat) (u : Value) : w.grownBy (w.setCell ⟨g, j, none⟩ u) (some g) :=
  ⟨rfl, rfl, rfl, by simp [World.setCell], fun k hk hne => heap_setCell_other w _ k u (fun e => hne (by rw [e]))⟩
theorem boxG (w : World) (g : Nat) (a b : Value) : w.grownBy ((w.setCell ⟨g, 0, none⟩ a).setCell ⟨g, 1, none⟩ b) (some g) := (setG _ _ _ _).trans (setG _ _ _ _)
theorem two_box (w : World) (o1 o2 : Obj) : ((w.alloc o1).alloc o2).drew.heap[w.heap.size]? = some o1 ∧ ((w.alloc o1).alloc o2).drew.heap[w.heap.size + 1]? = some o2 ∧ Below w.heap.size w ((w.alloc o1).alloc o2).drew := by
  refine ⟨?_, ?_, ?_⟩
  · show ((w.alloc o1).alloc o2).heap[w.heap.size]? = _
    rw [heap_alloc_old _ _ (by simp)]
    exact heap_alloc_new w o1
  · show ((w.alloc o1).alloc o2).heap[w.heap.size + 1]? = _
    have := heap_alloc_new (w.alloc o1) o2
    simpa using this
  · exact ((alloc_bel w o1).then_below (alloc_bel _ o2)).drew
theorem cong_no {fs : List E.Fl} {ls : List E.Lk} {l : E.Lk} (h : ¬ (0 ≤ (fs.getD l.a.toNat E.f0).fn ∧ (fs.getD l.a.toNat E.f0).fn = (fs.getD l.b.toNat E.f0).fn ∧ (fs.getD l.a.toNat E.f0).args.length = (fs.getD l.b.toNat E.f0).args.length ∧ l.kids.length = (fs.getD l.a.toNat E.f0).args.length)) : E.congB fs ls l = false := by
  unfold E.congB
  rw [decide_eq_false h]
  rfl
theorem cong_yes {fs : List E.Fl} {ls : List E.Lk} {l : E.Lk} (h : 0 ≤ (fs.getD l.a.toNat E.f0).fn ∧ (fs.getD l.a.toNat E.f0).fn = (fs.getD l.b.toNat E.f0).fn ∧ (fs.getD l.a.toNat E.f0).args.length = (fs.getD l.b.toNat E.f0).args.length ∧ l.kids.length = (fs.getD l.a.toNat E.f0).args.length) :
    E.congB fs ls l = (List.range l.kids.length).all fun j => E.says ls (l.kids.getD j 0) ((fs.getD l.a.toNat E.f0).args.getD j 0) ((fs.getD l.b.toNat E.f0).args.getD j 0) := by
  unfold E.congB
  rw [decide_eq_true h]
  rfl
theorem all_no {n p : Nat} {f : Nat → Bool} (hp : p < n) (h : f p = false) : (List.range n).all f = false := by
  cases hb : (List.range n).all f
  · rfl
  · have := List.all_eq_true.1 hb p (List.mem_range.2 hp)
    rw [h] at this
    cases this
theorem unhideE {p : Prop} (h : Hid p) : p := h
theorem inB_toNat {n : Nat} {x : Int} (h : E.inB n x = true) : ∃ k : Nat, x = k ∧ k < n := by
  obtain ⟨h1, h2⟩ := E.inB_iff.1 h
  exact ⟨x.toNat, by omega, by omega⟩
set_option maxRecDepth 100000 in
set_option maxHeartbeats 1000000 in
theorem congruent_calls (w : World) (B g bm : Nat) (fs : List E.Fl) (ls : List E.Lk) (h : AU B g w fs ls bm) (hB : B ≤ w.heap.size) (kd tg : Int) (a b : Nat) (u : Value) (ks : List Int) (ha : a < fs.length) (hb : b < fs.length) (hu : IRow B w u ks) (hk : ∀ j, j < ks.length → 0 ≤ ks.getD j 0 ∧ ks.getD j 0 < ls.length) :
    Calls Try.prog 21 #[.pointer (some ⟨g, 0, none⟩), .agg #[.int .i64 kd, .int .i64 (a : Int), .int .i64 (b : Int), .int .i64 tg, u]] w fun e w' => e = .returned (.bool (E.congB fs ls ⟨kd, a, b, tg, ks⟩)) ∧ Below w.heap.size w w' := by
  have hA := hide h
  obtain ⟨vn, vl, c0, c1, c2, h1, h2⟩ := h
  obtain ⟨an, cn, rfl, hn⟩ := h1.shape
  obtain ⟨ak, ck, rfl, hkn⟩ := hu.shape
  obtain ⟨bn, on, rfl, hbn, x0, ua, x1, ra⟩ := h1.at_ ha
  obtain ⟨bn', on', e, hbn', y0, ub, y1, rb⟩ := h1.at_ hb
  cases e
  obtain ⟨aa, ca, rfl, la⟩ := ra.shape
  obtain ⟨ab, cb, rfl, lb⟩ := rb.shape
  have al : (a : Int) < (fs.length : Int) := by omega
  have bl : (b : Int) < (fs.length : Int) := by omega
  obtain ⟨FA, hFA⟩ : ∃ F, fs.getD a E.f0 = F := ⟨_, rfl⟩
  obtain ⟨FB, hFB⟩ : ∃ F, fs.getD b E.f0 = F := ⟨_, rfl⟩
  rw [hFA] at x0 x1 ra la
  rw [hFB] at y0 y1 rb lb
  obtain ⟨fa, xa⟩ := FA
  obtain ⟨fb, xb⟩ := FB
  simp only at x0 x1 y0 y1 ra rb la lb
  replace hFA := hide hFA
  replace hFB := hide hFB
  replace ra := hide ra
  replace rb := hide rb
  replace hu := hide hu
  replace hk := hide hk
  clear h1 h2 c1 c2
  have gl : g < w.heap.size := World.block_lt_of_cell? w _ c0
  have W1 : Hid (Below w.heap.size w (w.alloc (.cells #[.int .i64 kd, .int .i64 (a : Int), .int .i64 (b : Int), .int .i64 tg, .slice ak ks.length ck] 26))) := (Below.refl _ w).alloc (Nat.le_refl _) _
  have A1 : Hid ((w.alloc (.cells #[.int .i64 kd, .int .i64 (a : Int), .int .i64 (b : Int), .int .i64 tg, .slice ak ks.length ck] 26)).heap[w.heap.size]? = some (.cells #[.int .i64 kd, .int .i64 (a : Int), .int .i64 (b : Int), .int .i64 tg, .slice ak ks.length ck] 26 (0, 0))) := heap_alloc_new w _
  go_enter Try.func21, Try.ntmps21
  go_upto_region 1 with fail
  generalize hw1 : (w.alloc (.cells #[.int .i64 kd, .int .i64 (a : Int), .int .i64 (b : Int), .int .i64 tg, .slice ak ks.length ck] 26)) = w1 at *
  have c0' := (W1.out.cell (p := ⟨g, 0, none⟩) gl).trans c0
  have hbw : bn < w.heap.size := Nat.lt_of_lt_of_le hbn hB
  have x0' := (W1.out.cell (p := ⟨bn, on + a * 2, none⟩) hbw).trans x0
  have x1' := (W1.out.cell (p := ⟨bn, on + a * 2 + 1, none⟩) hbw).trans x1
  have y0' := (W1.out.cell (p := ⟨bn, on + b * 2, none⟩) hbw).trans y0
  have y1' := (W1.out.cell (p := ⟨bn, on + b * 2 + 1, none⟩) hbw).trans y1
  have z1 : w1.cell? ⟨w.heap.size, 1, none⟩ = some (.int .i64 (a : Int)) := by rw [cell_of_row _ _ _ _ _ _ A1.out]; rfl
  have z2 : w1.cell? ⟨w.heap.size, 2, none⟩ = some (.int .i64 (b : Int)) := by rw [cell_of_row _ _ _ _ _ _ A1.out]; rfl
  clear c0 x0 x1 y0 y1 hw1
  go_cut [5, 6] (fun s5 s6 wx => ∃ g5 g6 : Nat, s5 = .pointer (some ⟨g5, 0, none⟩) ∧ s6 = .pointer (some ⟨g6, 0, none⟩) ∧ Hid (wx.heap[g5]? = some (.cells #[.int .i64 fa, .slice aa xa.length ca] 31 (0, 0)) ∧ wx.heap[g6]? = some (.cells #[.int .i64 fb, .slice ab xb.length cb] 31 (0, 0)) ∧ Below w1.heap.size w1 wx))
  case first =>
    have w1l : w.heap.size < w1.heap.size := (Array.getElem?_eq_some_iff.1 A1.out).1
    have KP : ∀ {W : World}, Below w1.heap.size w1 W → W.cell? ⟨g, 0, none⟩ = some (.slice (some ⟨bn, on, none⟩) fs.length cn) ∧ W.cell? ⟨bn, on + a * 2, none⟩ = some (.int .i64 fa) ∧ W.cell? ⟨bn, on + a * 2 + 1, none⟩ = some (.slice aa xa.length ca) ∧ W.cell? ⟨bn, on + b * 2, none⟩ = some (.int .i64 fb) ∧ W.cell? ⟨bn, on + b * 2 + 1, none⟩ = some (.slice ab xb.length cb) ∧ W.cell? ⟨w.heap.size, 1, none⟩ = some (.int .i64 (a : Int)) ∧ W.cell? ⟨w.heap.size, 2, none⟩ = some (.int .i64 (b : Int)) ∧ Below w1.heap.size w1 W :=
      fun h => ⟨(h.cell (p := ⟨g, 0, none⟩) (by show g < _; omega)).trans c0', (h.cell (p := ⟨bn, on + a * 2, none⟩) (by show bn < _; omega)).trans x0', (h.cell (p := ⟨bn, on + a * 2 + 1, none⟩) (by show bn < _; omega)).trans x1', (h.cell (p := ⟨bn, on + b * 2, none⟩) (by show bn < _; omega)).trans y0', (h.cell (p := ⟨bn, on + b * 2 + 1, none⟩) (by show bn < _; omega)).trans y1', (h.cell (p := ⟨w.heap.size, 1, none⟩) w1l).trans z1, (h.cell (p := ⟨w.heap.size, 2, none⟩) w1l).trans z2, h⟩
    have D1 : Below w1.heap.size w1 w1.drew := (Below.refl _ _).drew
    clear c0' x0' x1' y0' y1' z1 z2
    go_region_held3 (fun W => W.cell? ⟨g, 0, none⟩ = some (.slice (some ⟨bn, on, none⟩) fs.length cn) ∧ W.cell? ⟨bn, on + a * 2, none⟩ = some (.int .i64 fa) ∧ W.cell? ⟨bn, on + a * 2 + 1, none⟩ = some (.slice aa xa.length ca) ∧ W.cell? ⟨bn, on + b * 2, none⟩ = some (.int .i64 fb) ∧ W.cell? ⟨bn, on + b * 2 + 1, none⟩ = some (.slice ab xb.length cb) ∧ W.cell? ⟨w.heap.size, 1, none⟩ = some (.int .i64 (a : Int)) ∧ W.cell? ⟨w.heap.size, 2, none⟩ = some (.int .i64 (b : Int)) ∧ Below w1.heap.size w1 W)
      ((refine KP ?_; repeat (first | exact D1 | exact Below.refl _ _ | (refine Below.drew ?_) | (refine Below.then_below ?_ (alloc_bel _ _)) | (refine Below.then_grown ?_ (boxG _ _ _ _) (by rintro g ⟨⟩; first | exact Nat.le_refl _ | omega | (simp; omega) | simp)))))
      (fail)
    all_goals (go_wp2_with fail; go_meet)
    · obtain ⟨t1, t2, t3⟩ := two_box w1 (.cells #[.int .i64 fa, .slice aa xa.length ca] 31) (.cells #[.int .i64 fb, .slice ab xb.length cb] 31)
      exact ⟨_, _, rfl, rfl, t1, t2, t3⟩
    · obtain ⟨t1, t2, t3⟩ := two_box w1 (.cells #[.int .i64 fb, .slice ab xb.length cb] 31) (.cells #[.int .i64 fa, .slice aa xa.length ca] 31)
      exact ⟨_, _, rfl, rfl, t2, t1, t3⟩
  case rest =>
    obtain ⟨g5, g6, rfl, rfl, T⟩ := hcut
    obtain ⟨t1, t2, t3⟩ := T.out
    have w1l : w.heap.size < w1.heap.size := (Array.getElem?_eq_some_iff.1 A1.out).1
    have m0 : wc.cell? ⟨g5, 0, none⟩ = some (.int .i64 fa) := by rw [cell_of_row _ _ _ _ _ _ t1]; rfl
    have m1 : wc.cell? ⟨g5, 1, none⟩ = some (.slice aa xa.length ca) := by rw [cell_of_row _ _ _ _ _ _ t1]; rfl
    have m2 : wc.cell? ⟨g6, 0, none⟩ = some (.int .i64 fb) := by rw [cell_of_row _ _ _ _ _ _ t2]; rfl
    have m3 : wc.cell? ⟨g6, 1, none⟩ = some (.slice ab xb.length cb) := by rw [cell_of_row _ _ _ _ _ _ t2]; rfl
    have m4 : wc.cell? ⟨w.heap.size, 4, none⟩ = some (.slice ak ks.length ck) := by
      refine (t3.cell (p := ⟨w.heap.size, 4, none⟩) w1l).trans ?_
      rw [cell_of_row _ _ _ _ _ _ A1.out]
      rfl
    have BW := hide (W1.out.then_below t3)
    have HA := hide (hA.out.below hB BW.out)
    have RA := hide (ra.out.below (BW.out.mono hB))
    have RB := hide (rb.out.below (BW.out.mono hB))
    have RK := hide (hu.out.below (BW.out.mono hB))
    have NO : Hid (¬ (0 ≤ fa ∧ fa = fb ∧ xa.length = xb.length ∧ ks.length = xa.length) → E.congB fs ls ⟨kd, a, b, tg, ks⟩ = false) := fun h => cong_no (by
      simp only [Int.toNat_natCast]
      rw [hFA.out, hFB.out]
      exact h)
    have YES : Hid ((0 ≤ fa ∧ fa = fb ∧ xa.length = xb.length ∧ ks.length = xa.length) → E.congB fs ls ⟨kd, a, b, tg, ks⟩ = (List.range ks.length).all fun j => E.says ls (ks.getD j 0) (xa.getD j 0) (xb.getD j 0)) := fun h => by
      rw [cong_yes (by
        simp only [Int.toNat_natCast]
        rw [hFA.out, hFB.out]
        exact h)]
      simp only [Int.toNat_natCast]
      rw [hFA.out, hFB.out]
    clear T t1 t2 t3 c0' x0' x1' y0' y1' z1 z2 hA ra rb hu W1 A1 hFA hFB w1l
    by_cases p1 : fa < 0
    · have p2 : ¬ 0 ≤ fa := by omega
      go_wp2
      go_ret
      exact ⟨by rw [NO.out (fun h => by have := h.1; omega)]; rfl, BW.out⟩
    by_cases p2n : ¬ fa = fb
    · have p2 := p2n
      have p3 : (fa != fb) = true := by simpa using p2
      go_wp2
      go_ret
      exact ⟨by rw [NO.out (fun h => p2 h.2.1)]; rfl, BW.out⟩
    obtain p2 := Decidable.not_not.1 p2n
    subst p2
    by_cases p3n : ¬ xa.length = xb.length
    · have p3 := p3n
      have p4 : ((xa.length : Int) != (xb.length : Int)) = true := by simp; omega
      have p5 : ¬ (xa.length : Int) = (xb.length : Int) := by omega
      go_wp2
      go_ret
      exact ⟨by rw [NO.out (fun h => p3 h.2.2.1)]; rfl, BW.out⟩
    have p3 := Decidable.not_not.1 p3n
    rw [← p3] at m3 RB
    replace p3 := hide p3
    by_cases p4n : ¬ ks.length = xa.length
    · have p4 := p4n
      have p5 : ((ks.length : Int) != (xa.length : Int)) = true := by simp; omega
      have p6 : ¬ (ks.length : Int) = (xa.length : Int) := by omega
      go_wp2
      go_ret
      exact ⟨by rw [NO.out (fun h => p4 h.2.2.2)]; rfl, BW.out⟩
    have p4 := Decidable.not_not.1 p4n
    have YY := hide (YES.out ⟨by omega, rfl, p3.out, p4⟩)
    rw [← p4] at m1 m3 RA RB
    replace p4 := hide p4
    have F0 : Hid (∃ m, wc = wc.drewN m) := ⟨0, rfl⟩
    have M5 := hide (And.intro m1 m3)
    clear NO YES p2n p3n p4n
    go_wp2
    clear m0 m1 m2 m3 m4
    go_loopw [56] (fun i wr => ∃ p : Nat, i = .int .i64 (p : Int) ∧ p ≤ ks.length ∧ Hid (∀ q, q < p → E.says ls (ks.getD q 0) (xa.getD q 0) (xb.getD q 0) = true) ∧ Hid (∃ m, wr = wc.drewN m)) (fun i _ => ks.length - (intOf i).toNat)
    case atStart => exact ⟨0, rfl, Nat.zero_le _, fun q hq => by omega, F0⟩
    case round =>
      clear F0
      obtain ⟨p, rfl, hp, P, HW⟩ := hrel
      have AUr : Hid (AU B g wr fs ls bm) := by
        obtain ⟨m, e⟩ := HW.out
        rw [e]
        exact HA.out
      have BWr : Hid (Below w.heap.size w wr) := by
        obtain ⟨m, e⟩ := HW.out
        rw [e]
        exact below_drewN BW.out m
      by_cases hlt : p < ks.length
      · obtain ⟨b1, o1, rfl, hb1, d1⟩ := RK.out.at_ hlt
        have l2 : p < xa.length := by have := p4.out; omega
        have l3 : p < xb.length := by have := p3.out; have := p4.out; omega
        obtain ⟨b2, o2, rfl, hb2, d2⟩ := RA.out.at_ l2
        obtain ⟨b3, o3, rfl, hb3, d3⟩ := RB.out.at_ l3
        have HWn : Hid (∀ m', ∃ m, wr.drewN m' = wc.drewN m) := by
          intro m'
          obtain ⟨m, e⟩ := HW.out
          exact ⟨m + m', by rw [e]; exact World.drewN_drewN _ _ _⟩
        obtain ⟨n1, n3⟩ := M5.out
        obtain ⟨mm, em⟩ := HW.out
        have d1' : wr.cell? ⟨b1, o1 + p, none⟩ = some (.int .i64 (ks.getD p 0)) := by rw [em]; exact d1
        have d2' : wr.cell? ⟨b2, o2 + p, none⟩ = some (.int .i64 (xa.getD p 0)) := by rw [em]; exact d2
        have d3' : wr.cell? ⟨b3, o3 + p, none⟩ = some (.int .i64 (xb.getD p 0)) := by rw [em]; exact d3
        have n1' : wr.cell? ⟨g5, 1, none⟩ = some (.slice (some ⟨b2, o2, none⟩) ks.length ca) := by rw [em]; exact n1
        have n3' : wr.cell? ⟨g6, 1, none⟩ = some (.slice (some ⟨b3, o3, none⟩) ks.length cb) := by rw [em]; exact n3
        obtain ⟨k1, k2⟩ := hk.out p hlt
        obtain ⟨q, hq⟩ : ∃ q : Nat, ks.getD p 0 = q := ⟨(ks.getD p 0).toNat, by omega⟩
        have S := hide (fun n => says_calls (wr.drewN n) B g bm fs ls (show AU B g (wr.drewN n) fs ls bm from AUr.out) q (by omega) (xa.getD p 0) (xb.getD p 0))
        obtain ⟨bb, hbb⟩ : ∃ bb, E.says ls q (xa.getD p 0) (xb.getD p 0) = bb := ⟨_, rfl⟩
        have hbb' : Hid (E.says ls (ks.getD p 0) (xa.getD p 0) (xb.getD p 0) = bb) := by rw [hq]; exact hbb
        rw [hbb] at S
        rw [hq] at d1'
        have pl : (p : Int) < (ks.length : Int) := by omega
        clear d1 d2 d3 n1 n3 em hq hbb k1 k2 M5
        cases bb with
        | false =>
          have ec : Hid (E.congB fs ls ⟨kd, a, b, tg, ks⟩ = false) := by
            have h := hbb'.out
            rw [YY.out]
            exact all_no (f := fun j => E.says ls (ks.getD j 0) (xa.getD j 0) (xb.getD j 0)) hlt h
          clear hbb'
          generalize xa.getD p 0 = va at *
          generalize xb.getD p 0 = vb at *
          go_wp2_with fail
          go_quiet ((go_at_call 20; exact Calls.quiet_of_same (unhideE S _)))
          go_wp2_with fail
          go_ret
          exact ⟨by rw [ec.out]; rfl, below_drewN BWr.out _⟩
        | true =>
          have P1 : Hid (∀ q, q < p + 1 → E.says ls (ks.getD q 0) (xa.getD q 0) (xb.getD q 0) = true) := by
            intro q hq
            rcases Nat.lt_or_ge q p with c | c
            · exact P.out q c
            · obtain rfl : q = p := by omega
              exact hbb'.out
          clear hbb' P
          generalize xa.getD p 0 = va at *
          generalize xb.getD p 0 = vb at *
          go_wp2_with fail
          go_quiet ((go_at_call 20; exact Calls.quiet_of_same (unhideE S _)))
          go_wp2_with fail
          go_roundw
          case rel => exact ⟨p + 1, by go_num, by omega, P1, HWn.out _⟩
          case measure => simp [intOf]; omega
      · obtain rfl : p = ks.length := by omega
        have e : Hid (E.congB fs ls ⟨kd, a, b, tg, ks⟩ = true) := by
          rw [YY.out]
          exact List.all_eq_true.2 fun j hj => P.out j (List.mem_range.1 hj)
        clear P hlt hp
        go_wp2_with fail
        go_ret
        exact ⟨by rw [e.out]; rfl, BWr.out⟩
end Go.Proofs.Ytcpmeehchmdljaa
