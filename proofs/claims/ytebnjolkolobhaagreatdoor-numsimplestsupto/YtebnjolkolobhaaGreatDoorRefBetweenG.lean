/-
  The document's side (arbiterref1): Between.
-/
import Derived.Test.YtebnjolkolobhaaGreatDoorRefPlainSG
import Derived.Test.YtebnjolkolobhaaGreatDoorRefEdgeG
import Derived.Test.YtebnjolkolobhaaGreatDoorSimTG
/- ==== RefBetween ==== -/
namespace Go.Proofs.YtebnjolkolobhaaGreatDoor
open Go.RowKit
set_option linter.unusedVariables false
theorem cells7_keep {w W W2 : World} {a1 a2 a3 a4 a5 a6 a7 : Addr} {v1 v2 v3 v4 v5 v6 v7 : Value} (h : W.cell? a1 = some v1 ∧ W.cell? a2 = some v2 ∧ W.cell? a3 = some v3 ∧ W.cell? a4 = some v4 ∧ W.cell? a5 = some v5 ∧ W.cell? a6 = some v6 ∧ W.cell? a7 = some v7 ∧ Below w.heap.size w W) (b : Below W.heap.size W W2) : W2.cell? a1 = some v1 ∧ W2.cell? a2 = some v2 ∧ W2.cell? a3 = some v3 ∧ W2.cell? a4 = some v4 ∧ W2.cell? a5 = some v5 ∧ W2.cell? a6 = some v6 ∧ W2.cell? a7 = some v7 ∧ Below w.heap.size w W2 := by
  obtain ⟨h1, h2, h3, h4, h5, h6, h7, hb⟩ := h
  exact ⟨by rw [b.cell (World.block_lt_of_cell? W _ h1)]; exact h1, by rw [b.cell (World.block_lt_of_cell? W _ h2)]; exact h2, by rw [b.cell (World.block_lt_of_cell? W _ h3)]; exact h3, by rw [b.cell (World.block_lt_of_cell? W _ h4)]; exact h4, by rw [b.cell (World.block_lt_of_cell? W _ h5)]; exact h5, by rw [b.cell (World.block_lt_of_cell? W _ h6)]; exact h6, by rw [b.cell (World.block_lt_of_cell? W _ h7)]; exact h7, hb.then_below b⟩
theorem keep7_set3 {w W : World} {g1 g2 g3 g4 g5 g6 g7 j1 j2 j3 j4 j5 j6 j7 H : Nat} {v1 v2 v3 v4 v5 v6 v7 a b c : Value} (h : W.cell? ⟨g1, j1, none⟩ = some v1 ∧ W.cell? ⟨g2, j2, none⟩ = some v2 ∧ W.cell? ⟨g3, j3, none⟩ = some v3 ∧ W.cell? ⟨g4, j4, none⟩ = some v4 ∧ W.cell? ⟨g5, j5, none⟩ = some v5 ∧ W.cell? ⟨g6, j6, none⟩ = some v6 ∧ W.cell? ⟨g7, j7, none⟩ = some v7 ∧ Below w.heap.size w W) (hn : g1 ≠ H ∧ g2 ≠ H ∧ g3 ≠ H ∧ g4 ≠ H ∧ g5 ≠ H ∧ g6 ≠ H ∧ g7 ≠ H) (hH : w.heap.size ≤ H) : (((W.setCell ⟨H, 0, none⟩ a).setCell ⟨H, 1, none⟩ b).setCell ⟨H, 2, none⟩ c).cell? ⟨g1, j1, none⟩ = some v1 ∧ (((W.setCell ⟨H, 0, none⟩ a).setCell ⟨H, 1, none⟩ b).setCell ⟨H, 2, none⟩ c).cell? ⟨g2, j2, none⟩ = some v2 ∧ (((W.setCell ⟨H, 0, none⟩ a).setCell ⟨H, 1, none⟩ b).setCell ⟨H, 2, none⟩ c).cell? ⟨g3, j3, none⟩ = some v3 ∧ (((W.setCell ⟨H, 0, none⟩ a).setCell ⟨H, 1, none⟩ b).setCell ⟨H, 2, none⟩ c).cell? ⟨g4, j4, none⟩ = some v4 ∧ (((W.setCell ⟨H, 0, none⟩ a).setCell ⟨H, 1, none⟩ b).setCell ⟨H, 2, none⟩ c).cell? ⟨g5, j5, none⟩ = some v5 ∧ (((W.setCell ⟨H, 0, none⟩ a).setCell ⟨H, 1, none⟩ b).setCell ⟨H, 2, none⟩ c).cell? ⟨g6, j6, none⟩ = some v6 ∧ (((W.setCell ⟨H, 0, none⟩ a).setCell ⟨H, 1, none⟩ b).setCell ⟨H, 2, none⟩ c).cell? ⟨g7, j7, none⟩ = some v7 ∧ Below w.heap.size w (((W.setCell ⟨H, 0, none⟩ a).setCell ⟨H, 1, none⟩ b).setCell ⟨H, 2, none⟩ c) := by
  obtain ⟨h1, h2, h3, h4, h5, h6, h7, hb⟩ := h
  obtain ⟨n1, n2, n3, n4, n5, n6, n7⟩ := hn
  have q := set3 W H a b c
  exact ⟨cell_past q n1 h1, cell_past q n2 h2, cell_past q n3 h3, cell_past q n4 h4, cell_past q n5 h5, cell_past q n6 h6, cell_past q n7 h7, bel_set3 hb hH⟩
/-- A rational's own parts in memory. -/
def RQ (w : World) (v : Value) (q : Rat) : Prop := RR w v (decide (q.num < 0)) q.num.natAbs q.den
theorem rq_pos {w : World} {v : Value} {n d : Nat} (h : RR w v false n d) (hg : Nat.gcd n d = 1) (hd : 0 < d) : RQ w v (mkRat (n : Int) d) := by
  obtain ⟨e1, e2⟩ := mk_cop hg hd
  unfold RQ
  rw [e1, e2, Int.natAbs_natCast, decide_eq_false (by omega)]
  exact h
theorem rq_neg {w : World} {v : Value} {n d : Nat} (h : RR w v true n d) (hg : Nat.gcd n d = 1) (hd : 0 < d) (hn : 0 < n) : RQ w v (mkRat (M.sg true n) d) := by
  obtain ⟨e1, e2⟩ := mk_cop hg hd
  have e : mkRat (M.sg true n) d = - mkRat (n : Int) d := by
    show mkRat (-(n : Int)) d = _
    rw [Rat.neg_mkRat]
  obtain ⟨f1, f2⟩ := neg_parts (mkRat (n : Int) d)
  unfold RQ
  rw [e, f1, f2, e1, e2, Int.natAbs_natCast, Rat.neg_num, e1, decide_eq_true (by omega)]
  exact h
theorem rrt_past {w w' : World} {na : Option Addr} {nl nc : Nat} {da : Option Addr} {dl dc : Nat} {n d g : Nat} {x : Bool} {ya : Option Addr} {yl yc : Nat} {za : Option Addr} {zl zc : Nat} {t : TypeId} (h : RR w (.agg #[.bool true, .slice na nl nc, .slice da dl dc]) true n d) (hg : w.heap[g]? = some (.cells #[.bool x, .slice ya yl yc, .slice za zl zc] t (0, 0))) (q : w.grownBy w' (some g)) :
    RR w' (.agg #[.bool true, .slice na nl nc, .slice da dl dc]) true n d := by
  obtain ⟨a1, a2, a3, b1, b2, b3, e, m1, m2⟩ := h
  exact ⟨a1, a2, a3, b1, b2, b3, e, m1.past hg q, m2.past hg q⟩
theorem rn_nil (w : World) : RN w (.slice none 0 0) 0 := ⟨[], ⟨none, 0, rfl, Nat.le_refl _, by decide, fun _ => rfl, fun h => absurd rfl h⟩, M.Dig.nil, fun h => absurd rfl h, rfl⟩
theorem rq_zero {w : World} {v : Value} (h : RR w v false 0 1) : RQ w v 0 := h
theorem EDs.ed {w : World} {v : Value} {g : Bool} {n d n' d' : Nat} (h : EDs w v g false n d) (hd : decide (d' ≠ 0) = g) (e : g = true → n' = n ∧ d' = d) : ED w v (decide (d' ≠ 0)) n' d' := by
  obtain ⟨s, na, nl, nc, da, dl, dc, rfl, h1, -⟩ := h
  rw [hd]
  refine ⟨s, na, nl, nc, da, dl, dc, rfl, fun x => ?_⟩
  obtain ⟨e1, e2⟩ := e x
  rw [e1, e2]
  exact h1 x
set_option maxRecDepth 100000 in
set_option maxHeartbeats 16000000 in
theorem rbetween_calls (w : World) (vl vh : Value) (la lb : List UInt8) (oka : okB la = true) (okb : okB lb = true) (K X : Nat) (ba : (szO (bO la)).1 ≤ X ∧ (szO (bO la)).2 ≤ X) (bb : (szO (bO lb)).1 ≤ X ∧ (szO (bO lb)).2 ≤ X) (kX : ((2 * X : Nat) : Int) < M.NB ^ K) (hK : 2 * K + 1 ≤ 17592186044) (hK1 : 1 ≤ K) (hX : 1 ≤ X)
    (hl : EDs w vl (decide (la ≠ [])) (cneg la) (M.dec (cup la)) (M.dec (clow la))) (hh : EDs w vh (decide (lb ≠ [])) (cneg lb) (M.dec (cup lb)) (M.dec (clow lb))) (hO : OrdO (bO la) (bO lb)) :
    Calls Tryz.prog 46 #[vl, vh] w fun e w' => (∃ r, e = .returned r ∧ RQ w' r (simQ (bO la) (bO lb))) ∧ Below w.heap.size w w' := by
  obtain ⟨g1, hg1⟩ : ∃ g, decide (la ≠ []) = g := ⟨_, rfl⟩
  obtain ⟨g2, hg2⟩ : ∃ g, decide (lb ≠ []) = g := ⟨_, rfl⟩
  rw [hg1] at hl
  rw [hg2] at hh
  have hl' := hl
  have hh' := hh
  obtain ⟨s1, a1, a2, a3, b1, b2, b3, rfl, -, -⟩ := hl
  obtain ⟨s2, c1, c2, c3, d1, d2, d3, rfl, -, -⟩ := hh
  obtain ⟨A0, C0, R0, B0⟩ := three_new' w (.cells #[.bool g1, .bool s1, .slice a1 a2 a3, .slice b1 b2 b3] 61) (.cells #[.bool g2, .bool s2, .slice c1 c2 c3, .slice d1 d2 d3] 61) (.cells #[.bool false, .slice none 0 0, .slice none 0 0] 59)
  have HL := hide (hl'.below B0)
  have HH := hide (hh'.below B0)
  have kx : ((X : Nat) : Int) < M.NB ^ K := NB_lt (by omega) kX
  replace kX := hide kX
  have QW := hide (fun W => rwhole_calls W 0 (by decide))
  replace A0 := hide A0
  replace C0 := hide C0
  replace R0 := hide R0
  replace B0 := hide B0
  clear hl' hh'
  go_enter Tryz.func46, Tryz.ntmps46
  go_upto_region 2 with (go_at_call 89; refine (QW.out _).mono ?_; rintro e wa ⟨⟨v, rfl, hv⟩, ba'⟩; have hv1 := hv; obtain ⟨z1, z2, z3, z4, z5, z6, rfl, -, -⟩ := hv1)
  generalize (((w.alloc (.cells #[.bool g1, .bool s1, .slice a1 a2 a3, .slice b1 b2 b3] 61)).alloc (.cells #[.bool g2, .bool s2, .slice c1 c2 c3, .slice d1 d2 d3] 61)).alloc (.cells #[.bool false, .slice none 0 0, .slice none 0 0] 59)) = W1 at *
  have B2 := ba'.then_below (alloc_below wa (.cells #[.bool false, .slice z1 z2 z3, .slice z4 z5 z6] 59))
  have Z2 := hide (heap_alloc_new wa (.cells #[.bool false, .slice z1 z2 z3, .slice z4 z5 z6] 59))
  have HZ := hide (hv.below (alloc_below wa (.cells #[.bool false, .slice z1 z2 z3, .slice z4 z5 z6] 59)))
  have A2 := hide (kept_block A0.out B2)
  have C2 := hide (kept_block C0.out B2)
  have R2 := hide (kept_block R0.out B2)
  have D2 := hide (B0.out.then_below B2)
  have HL2 := hide (HL.out.below B2)
  have HH2 := hide (HH.out.below B2)
  generalize wa.alloc (.cells #[.bool false, .slice z1 z2 z3, .slice z4 z5 z6] 59) = W2 at *
  generalize wa.heap.size = g5 at *
  clear QW A0 C0 R0 B0 B2 HL HH hv ba'
  have k0 : ((0 : Nat) : Int) < M.NB ^ K := NB_lt (Nat.zero_le _) kx
  have k1 : ((1 : Nat) : Int) < M.NB ^ K := NB_lt hX kx
  cases g1 with
  | true =>
    have h1 : la ≠ [] := of_decide_eq_true hg1
    have hca := okB_can oka h1
    have eA := bO_some h1
    obtain ⟨s', p1, p2, p3, p4, p5, p6, e, hr, -⟩ := HL2.out
    simp only [Value.agg.injEq, Array.mk.injEq, List.cons.injEq, Value.bool.injEq, Value.slice.injEq, true_and, and_true] at e
    obtain ⟨rfl, ⟨rfl, rfl, rfl⟩, rfl, rfl, rfl⟩ := e
    have RL := hide (hr rfl)
    rw [eA, szO_some hca] at ba
    have QCl := hide (fun W (h : Below W2.heap.size W2 W) => rcompare_zero W _ _ (cneg la) _ _ K (RL.out.below h) (HZ.out.below h) (can_pos hca) (neg_up hca) (NB_lt ba.1 kx) (NB_lt ba.2 kx) k0 k1 hK hK1)
    rw [← szO_some hca, ← eA] at ba
    clear hr
    cases g2 with
    | true =>
      have h2 : lb ≠ [] := of_decide_eq_true hg2
      have hcb := okB_can okb h2
      have eB := bO_some h2
      obtain ⟨s', p1, p2, p3, p4, p5, p6, e, hr, -⟩ := HH2.out
      simp only [Value.agg.injEq, Array.mk.injEq, List.cons.injEq, Value.bool.injEq, Value.slice.injEq, true_and, and_true] at e
      obtain ⟨rfl, ⟨rfl, rfl, rfl⟩, rfl, rfl, rfl⟩ := e
      have RH := hide (hr rfl)
      rw [eB, szO_some hcb] at bb
      have QCh := hide (fun W (h : Below W2.heap.size W2 W) => rcompare_zero W _ _ (cneg lb) _ _ K (RH.out.below h) (HZ.out.below h) (can_pos hcb) (neg_up hcb) (NB_lt bb.1 kx) (NB_lt bb.2 kx) k0 k1 hK hK1)
      rw [← szO_some hcb, ← eB] at bb
      clear hr
      cases hs : cneg la with
      | false =>
        have dnb : dn0 (bO lb) = false := by
          have u : up0 (bO la) = true := by rw [eA, up0_can hca, hs]; rfl
          obtain ⟨x, ex, hx⟩ := le_of_up u
          rw [eB]
          refine decide_eq_false (fun hy => ?_)
          rw [ex, eB] at hO
          exact Rat.not_le.2 (show x < qV lb from hO) (Rat.le_trans hy hx)
        have dnb2 := dnb
        rw [eB, dn0_can hcb, Bool.or_eq_false_iff, decide_eq_false_iff_not] at dnb2
        have hsh : Hid (cneg lb = false ∧ M.dec (cup lb) ≠ 0) := dnb2
        have hsb : Hid (cneg lb = false) := dnb2.1
        clear dnb2
        have u1 : up0 (bO la) = true := by rw [eA, up0_can hca, hs]; rfl
        have bt := bt_up u1 hO
        have SC := hide (M.smp_cop _ _ _ _ bt)
        have ES := hide (simQ_up (b := bO lb) u1)
        have hsl : Hid (¬ cneg la = true) := fun h => by rw [hs] at h; cases h
        have QP := hide (fun W (h : Below W2.heap.size W2 W) => rplain_calls K X kX.out hK hK1 _ _ _ _ bt (by rw [eA, szO_some hca]; exact gcd_can hca) (fun _ => by rw [eB, szO_some hcb]; exact gcd_can hcb) ba.1 ba.2 bb.1 bb.2 W _ _ (by have := RL.out.below h; rw [hs] at this; rw [eA, szO_some hca]; exact this) (by have := HH2.out.below h; rw [hsb.out] at this; exact this.ed (by rw [eB, szO_some hcb]; exact decide_eq_true (Nat.ne_of_gt (can_pos hcb))) (fun _ => by rw [eB, szO_some hcb]; exact ⟨rfl, rfl⟩)))
        clear u1 bt eA hca hs h1 HL2 HH2 hO oka okb ba bb kx k0 k1 hX RL eB hcb h2 RH dnb hsb
        obtain ⟨i0, i1, i2, i3⟩ := (box4 (kept_block A2.out (Below.refl W2.heap.size W2))).1
        obtain ⟨j0, j1, j2, j3⟩ := (box4 (kept_block C2.out (Below.refl W2.heap.size W2))).1
        obtain ⟨y0, y1, y2, -, -, -⟩ := box3 (kept_block Z2.out (Below.refl W2.heap.size W2))
        obtain ⟨r0, r1, r2, f0, f1, f2⟩ := box3 (kept_block R2.out (Below.refl W2.heap.size W2))
        go_wp2_with (first
          | (go_at_call_of 44 (Value.agg #[.bool s1, .slice a1 a2 a3, .slice b1 b2 b3]); refine (QCl.out _ (Below.refl W2.heap.size W2)).mono ?_; rintro e wBL ⟨⟨cBL, rfl, hc1, hc2⟩, bBL⟩; have BL : Below W2.heap.size W2 wBL := Below.then_below (Below.refl W2.heap.size W2) bBL; have hng : ¬ cBL < 0 := fun h => hsl.out (hc1.1 h); replace hc1 := hide hc1; replace hc2 := hide hc2; obtain ⟨i0, i1, i2, i3⟩ := (box4 (kept_block A2.out BL)).1; obtain ⟨j0, j1, j2, j3⟩ := (box4 (kept_block C2.out BL)).1; obtain ⟨y0, y1, y2, -, -, -⟩ := box3 (kept_block Z2.out BL); obtain ⟨r0, r1, r2, f0, f1, f2⟩ := box3 (kept_block R2.out BL))
          | (go_at_call_of 44 (Value.agg #[.bool s2, .slice c1 c2 c3, .slice d1 d2 d3]); refine (QCh.out _ BL).mono ?_; rintro e wBH ⟨⟨cBH, rfl, hc1, hc2⟩, bBH⟩; have BH : Below W2.heap.size W2 wBH := Below.then_below BL bBH; have hps : 0 < cBH := hc2.2 hsh.out; replace hc1 := hide hc1; replace hc2 := hide hc2; obtain ⟨i0, i1, i2, i3⟩ := (box4 (kept_block A2.out BH)).1; obtain ⟨j0, j1, j2, j3⟩ := (box4 (kept_block C2.out BH)).1; obtain ⟨y0, y1, y2, -, -, -⟩ := box3 (kept_block Z2.out BH); obtain ⟨r0, r1, r2, f0, f1, f2⟩ := box3 (kept_block R2.out BH))
          | (go_at_call 90; refine (QP.out _ BH).mono ?_; rintro e wBP ⟨⟨v, rfl, hy⟩, bp⟩; have hy1 := hy; obtain ⟨x1, x2, x3, x4, x5, x6, rfl, -, -⟩ := hy1; have BP : Below W2.heap.size W2 wBP := Below.then_below BH bp; obtain ⟨r0, r1, r2, f0, f1, f2⟩ := box3 (kept_block R2.out BP); replace hy := hide hy))
        refine bodyPost_ret (v := .agg #[.bool false, .slice x1 x2 x3, .slice x4 x5 x6]) (by simp [results, Tryz.results46, go_sem, r0, r1, r2]) rfl ?_
        have q := set3 wBP (w.heap.size + 1 + 1) (.bool false) (.slice x1 x2 x3) (.slice x4 x5 x6)
        rw [ES.out]
        exact ⟨⟨_, rfl, rq_pos (rr_past hy.out (kept_block R2.out BP) q) SC.out.1 SC.out.2.2⟩, (D2.out.then_below BP).then_grown q (by rintro g ⟨⟩; omega)⟩
      | true =>
        have u0 : up0 (bO la) = false := by rw [eA, up0_can hca, hs]; rfl
        have hsl : Hid (cneg la = true) := hs
        cases dn : dn0 (bO lb) with
        | true =>
          have bt := bt_dn dn hO
          have SC := hide (M.smp_cop _ _ _ _ bt)
          have ES := hide (simQ_dn u0 dn)
          have dn2 := dn
          rw [eB, dn0_can hcb, Bool.or_eq_true, decide_eq_true_iff] at dn2
          have hdn : Hid (¬ (cneg lb = false ∧ M.dec (cup lb) ≠ 0)) := fun h => by
            rcases dn2 with d | d
            · rw [h.1] at d; cases d
            · exact h.2 d
          have hsg : Hid ((!cneg lb && !decide (M.dec (cup lb) = 0)) = false) := by
            show _ = _
            rcases dn2 with d | d
            · rw [d]; rfl
            · rw [decide_eq_true d]; simp
          have hsgN : Hid ((!false && !decide ((M.smp (szO (bO lb)).1 (szO (bO lb)).2 (szO (bO la)).1 (szO (bO la)).2).1 = 0)) = true) := by
            show _ = _
            rw [decide_eq_false (Nat.ne_of_gt SC.out.2.1)]
            rfl
          have QP := hide (fun W v1 v2 (hv1 : RR W v1 false (M.dec (cup lb)) (M.dec (clow lb))) (hv2 : ED W v2 (decide ((szO (bO la)).2 ≠ 0)) (szO (bO la)).1 (szO (bO la)).2) => rplain_calls K X kX.out hK hK1 _ _ _ _ bt (by rw [eB, szO_some hcb]; exact gcd_can hcb) (fun _ => by rw [eA, szO_some hca]; exact gcd_can hca) bb.1 bb.2 ba.1 ba.2 W v1 v2 (by rw [eB, szO_some hcb]; exact hv1) hv2)
          have mkE : Hid (∀ W (s : Bool) (a : Option Addr) (al ac : Nat) (d : Option Addr) (dl dc : Nat), RR W (.agg #[.bool s, .slice a al ac, .slice d dl dc]) false (M.dec (cup la)) (M.dec (clow la)) → ED W (.agg #[.bool true, .bool s, .slice a al ac, .slice d dl dc]) (decide ((szO (bO la)).2 ≠ 0)) (szO (bO la)).1 (szO (bO la)).2) := fun W s a al ac d dl dc h => by
            rw [eA, szO_some hca]
            exact ⟨s, a, al, ac, d, dl, dc, by rw [decide_eq_true (Nat.ne_of_gt (can_pos hca))], fun _ => h⟩
          have hsg1 : Hid ((!cneg la && !decide (M.dec (cup la) = 0)) = false) := by
            show _ = _
            rw [hs]
            rfl
          clear dn2 bt u0 dn hO oka okb ba bb kx k0 k1 hX HL2 HH2 eA hca hs h1 eB hcb h2
          obtain ⟨i0, i1, i2, i3⟩ := (box4 (kept_block A2.out (Below.refl W2.heap.size W2))).1
          obtain ⟨j0, j1, j2, j3⟩ := (box4 (kept_block C2.out (Below.refl W2.heap.size W2))).1
          obtain ⟨y0, y1, y2, -, -, -⟩ := box3 (kept_block Z2.out (Below.refl W2.heap.size W2))
          obtain ⟨r0, r1, r2, f0, f1, f2⟩ := box3 (kept_block R2.out (Below.refl W2.heap.size W2))
          go_upto_region 8 with (first
            | (go_at_call_of 44 (Value.agg #[.bool s1, .slice a1 a2 a3, .slice b1 b2 b3]); refine (QCl.out _ (Below.refl W2.heap.size W2)).mono ?_; rintro e wBL ⟨⟨cBL, rfl, hc1, hc2⟩, bBL⟩; have BL : Below W2.heap.size W2 wBL := Below.then_below (Below.refl W2.heap.size W2) bBL; have hng : cBL < 0 := hc1.2 hsl.out; replace hc1 := hide hc1; replace hc2 := hide hc2; obtain ⟨i0, i1, i2, i3⟩ := (box4 (kept_block A2.out BL)).1; obtain ⟨j0, j1, j2, j3⟩ := (box4 (kept_block C2.out BL)).1; obtain ⟨y0, y1, y2, -, -, -⟩ := box3 (kept_block Z2.out BL); obtain ⟨r0, r1, r2, f0, f1, f2⟩ := box3 (kept_block R2.out BL))
            | (go_at_call_of 44 (Value.agg #[.bool s2, .slice c1 c2 c3, .slice d1 d2 d3]); refine (QCh.out _ BL).mono ?_; rintro e wBH ⟨⟨cBH, rfl, hc1, hc2⟩, bBH⟩; have BH : Below W2.heap.size W2 wBH := Below.then_below BL bBH; have hps : ¬ 0 < cBH := fun h => hdn.out (hc2.1 h); replace hc1 := hide hc1; replace hc2 := hide hc2; obtain ⟨i0, i1, i2, i3⟩ := (box4 (kept_block A2.out BH)).1; obtain ⟨j0, j1, j2, j3⟩ := (box4 (kept_block C2.out BH)).1; obtain ⟨y0, y1, y2, -, -, -⟩ := box3 (kept_block Z2.out BH); obtain ⟨r0, r1, r2, f0, f1, f2⟩ := box3 (kept_block R2.out BH)))
          have S8 := hide (And.intro i0 (And.intro i1 (And.intro i2 (And.intro i3 (And.intro j1 (And.intro j2 (And.intro j3 (D2.out.then_below BH))))))))
          have R8 := hide (kept_block R2.out BH)
          have D8 := hide (D2.out.then_below BH)
          have QH8 := hide (ropp_calls)
          have RH8 := hide (RH.out.below BH)
          have RL8 := hide (RL.out.below BH)
          have BH8 := hide BH
          have nA : w.heap.size ≠ w.heap.size + 1 + 1 := by omega
          have nB : w.heap.size + 1 ≠ w.heap.size + 1 + 1 := by omega
          have hH : w.heap.size ≤ w.heap.size + 1 + 1 := by omega
          clear i0 i1 i2 i3 j0 j1 j2 j3 y0 y1 y2 r0 r1 r2 f0 f1 f2 hc1 hc2 hps bBH hng
          go_region_held3
            (fun w' => w'.cell? ⟨w.heap.size, 0, none⟩ = some (.bool true) ∧ w'.cell? ⟨w.heap.size, 1, none⟩ = some (.bool s1) ∧ w'.cell? ⟨w.heap.size, 2, none⟩ = some (.slice a1 a2 a3) ∧ w'.cell? ⟨w.heap.size, 3, none⟩ = some (.slice b1 b2 b3) ∧ w'.cell? ⟨w.heap.size + 1, 1, none⟩ = some (.bool s2) ∧ w'.cell? ⟨w.heap.size + 1, 2, none⟩ = some (.slice c1 c2 c3) ∧ w'.cell? ⟨w.heap.size + 1, 3, none⟩ = some (.slice d1 d2 d3) ∧ Below w.heap.size w w')
            (first
              | with_reducible exact cells7_keep S8.out (bel_drew bel_refl)
              | with_reducible exact cells7_keep S8.out Bc
              | with_reducible exact cells7_keep S8.out Bd
              | with_reducible exact cells7_keep S8.out Be
              | with_reducible exact cells7_keep S8.out Bf
              | with_reducible exact keep7_set3 (cells7_keep S8.out Bf) ⟨nA, nA, nA, nA, nB, nB, nB⟩ hH)
            (first
              | (go_at_call_of 91 (Value.agg #[.bool s2, .slice c1 c2 c3, .slice d1 d2 d3]); refine (ropp_calls _ _ _ _ _ (RH8.out.below (bel_drew bel_refl))).mono ?_; rintro e wc ⟨⟨v, rfl, ho⟩, bc⟩; rw [hsg.out] at ho; have Bc : Below wBH.heap.size wBH wc := Below.then_below (bel_drew bel_refl) bc; have ho1 := ho; obtain ⟨u1a, u2a, u3a, u4a, u5a, u6a, rfl, -, -⟩ := ho1)
              | (go_at_call_of 91 (Value.agg #[.bool s1, .slice a1 a2 a3, .slice b1 b2 b3]); refine (ropp_calls _ _ _ _ _ (RL8.out.below Bc)).mono ?_; rintro e wd ⟨⟨v, rfl, hp⟩, bd⟩; rw [hsg1.out] at hp; have Bd : Below wBH.heap.size wBH wd := Below.then_below Bc bd; have hp1 := hp; obtain ⟨v1a, v2a, v3a, v4a, v5a, v6a, rfl, -, -⟩ := hp1)
              | (go_at_call 90; refine (QP.out _ _ _ (ho.below bd) (mkE.out _ _ _ _ _ _ _ _ hp)).mono ?_; rintro e we ⟨⟨v, rfl, hq⟩, be⟩; have Be : Below wBH.heap.size wBH we := Below.then_below Bd be; have hq1 := hq; obtain ⟨x1a, x2a, x3a, x4a, x5a, x6a, rfl, -, -⟩ := hq1)
              | (go_at_call 91; refine (ropp_calls _ _ _ _ _ hq).mono ?_; rintro e wf ⟨⟨v, rfl, hr⟩, bf⟩; rw [hsgN.out] at hr; have Bf : Below wBH.heap.size wBH wf := Below.then_below Be bf; have hr1 := hr; obtain ⟨y1a, y2a, y3a, y4a, y5a, y6a, rfl, -, -⟩ := hr1; have Rf := kept_block R8.out Bf; obtain ⟨r0, r1, r2, f0, f1, f2⟩ := box3 Rf))
          go_wp2_with fail
          refine bodyPost_ret (v := .agg #[.bool true, .slice y1a y2a y3a, .slice y4a y5a y6a]) (by simp [results, Tryz.results46, go_sem, r0, r1, r2]) rfl ?_
          have q := set3 wf (w.heap.size + 1 + 1) (.bool true) (.slice y1a y2a y3a) (.slice y4a y5a y6a)
          rw [ES.out]
          exact ⟨⟨_, rfl, rq_neg (rrt_past hr Rf q) SC.out.1 SC.out.2.2 SC.out.2.1⟩, (D8.out.then_below Bf).then_grown q (by rintro g ⟨⟩; omega)⟩
        | false =>
          have dn2 := dn
          rw [eB, dn0_can hcb, Bool.or_eq_false_iff, decide_eq_false_iff_not] at dn2
          have hsh : Hid (cneg lb = false ∧ M.dec (cup lb) ≠ 0) := dn2
          have ES := hide (simQ_zero u0 dn)
          clear dn2
          clear u0 dn hO oka okb ba bb kx k0 k1 hX HL2 HH2 eA hca hs h1 RL eB hcb h2 RH
          obtain ⟨i0, i1, i2, i3⟩ := (box4 (kept_block A2.out (Below.refl W2.heap.size W2))).1
          obtain ⟨j0, j1, j2, j3⟩ := (box4 (kept_block C2.out (Below.refl W2.heap.size W2))).1
          obtain ⟨y0, y1, y2, -, -, -⟩ := box3 (kept_block Z2.out (Below.refl W2.heap.size W2))
          obtain ⟨r0, r1, r2, f0, f1, f2⟩ := box3 (kept_block R2.out (Below.refl W2.heap.size W2))
          go_wp2_with (first
            | (go_at_call_of 44 (Value.agg #[.bool s1, .slice a1 a2 a3, .slice b1 b2 b3]); refine (QCl.out _ (Below.refl W2.heap.size W2)).mono ?_; rintro e wBL ⟨⟨cBL, rfl, hc1, hc2⟩, bBL⟩; have BL : Below W2.heap.size W2 wBL := Below.then_below (Below.refl W2.heap.size W2) bBL; have hng : cBL < 0 := hc1.2 hsl.out; replace hc1 := hide hc1; replace hc2 := hide hc2; obtain ⟨i0, i1, i2, i3⟩ := (box4 (kept_block A2.out BL)).1; obtain ⟨j0, j1, j2, j3⟩ := (box4 (kept_block C2.out BL)).1; obtain ⟨y0, y1, y2, -, -, -⟩ := box3 (kept_block Z2.out BL); obtain ⟨r0, r1, r2, f0, f1, f2⟩ := box3 (kept_block R2.out BL))
            | (go_at_call_of 44 (Value.agg #[.bool s2, .slice c1 c2 c3, .slice d1 d2 d3]); refine (QCh.out _ BL).mono ?_; rintro e wBH ⟨⟨cBH, rfl, hc1, hc2⟩, bBH⟩; have BH : Below W2.heap.size W2 wBH := Below.then_below BL bBH; have hps : 0 < cBH := hc2.2 hsh.out; replace hc1 := hide hc1; replace hc2 := hide hc2; obtain ⟨i0, i1, i2, i3⟩ := (box4 (kept_block A2.out BH)).1; obtain ⟨j0, j1, j2, j3⟩ := (box4 (kept_block C2.out BH)).1; obtain ⟨y0, y1, y2, -, -, -⟩ := box3 (kept_block Z2.out BH); obtain ⟨r0, r1, r2, f0, f1, f2⟩ := box3 (kept_block R2.out BH)))
          refine bodyPost_ret (v := .agg #[.bool false, .slice z1 z2 z3, .slice z4 z5 z6]) (by simp [results, Tryz.results46, go_sem, r0, r1, r2]) rfl ?_
          have q := set3 wBH (w.heap.size + 1 + 1) (.bool false) (.slice z1 z2 z3) (.slice z4 z5 z6)
          rw [ES.out]
          exact ⟨⟨_, rfl, rq_zero (rr_past (HZ.out.below BH) (kept_block R2.out BH) q)⟩, (D2.out.then_below BH).then_grown q (by rintro g ⟨⟩; omega)⟩
    | false =>
      have h2 : lb = [] := Classical.byContradiction (fun h => by rw [decide_eq_true h] at hg2; cases hg2)
      have eB : bO lb = none := by rw [h2]; rfl
      cases hs : cneg la with
      | false =>
        have u1 : up0 (bO la) = true := by rw [eA, up0_can hca, hs]; rfl
        have bt := bt_up u1 hO
        have SC := hide (M.smp_cop _ _ _ _ bt)
        have ES := hide (simQ_up (b := bO lb) u1)
        have hsl : Hid (¬ cneg la = true) := fun h => by rw [hs] at h; cases h
        have QP := hide (fun W (h : Below W2.heap.size W2 W) => rplain_calls K X kX.out hK hK1 _ _ _ _ bt (by rw [eA, szO_some hca]; exact gcd_can hca) (fun c => absurd rfl (by rw [eB] at c; exact c)) ba.1 ba.2 bb.1 bb.2 W _ _ (by have := RL.out.below h; rw [hs] at this; rw [eA, szO_some hca]; exact this) (by have := HH2.out.below h; rw [h2] at this; exact this.ed (by rw [eB]; rfl) (fun c => by cases c)))
        clear u1 bt eA hca hs h1 HL2 HH2 hO oka okb ba bb kx k0 k1 hX RL eB h2
        obtain ⟨i0, i1, i2, i3⟩ := (box4 (kept_block A2.out (Below.refl W2.heap.size W2))).1
        obtain ⟨j0, j1, j2, j3⟩ := (box4 (kept_block C2.out (Below.refl W2.heap.size W2))).1
        obtain ⟨y0, y1, y2, -, -, -⟩ := box3 (kept_block Z2.out (Below.refl W2.heap.size W2))
        obtain ⟨r0, r1, r2, f0, f1, f2⟩ := box3 (kept_block R2.out (Below.refl W2.heap.size W2))
        go_wp2_with (first
          | (go_at_call_of 44 (Value.agg #[.bool s1, .slice a1 a2 a3, .slice b1 b2 b3]); refine (QCl.out _ (Below.refl W2.heap.size W2)).mono ?_; rintro e wBL ⟨⟨cBL, rfl, hc1, hc2⟩, bBL⟩; have BL : Below W2.heap.size W2 wBL := Below.then_below (Below.refl W2.heap.size W2) bBL; have hng : ¬ cBL < 0 := fun h => hsl.out (hc1.1 h); replace hc1 := hide hc1; replace hc2 := hide hc2; obtain ⟨i0, i1, i2, i3⟩ := (box4 (kept_block A2.out BL)).1; obtain ⟨j0, j1, j2, j3⟩ := (box4 (kept_block C2.out BL)).1; obtain ⟨y0, y1, y2, -, -, -⟩ := box3 (kept_block Z2.out BL); obtain ⟨r0, r1, r2, f0, f1, f2⟩ := box3 (kept_block R2.out BL))
          | (go_at_call 90; refine (QP.out _ BL).mono ?_; rintro e wBP ⟨⟨v, rfl, hy⟩, bp⟩; have hy1 := hy; obtain ⟨x1, x2, x3, x4, x5, x6, rfl, -, -⟩ := hy1; have BP : Below W2.heap.size W2 wBP := Below.then_below BL bp; obtain ⟨r0, r1, r2, f0, f1, f2⟩ := box3 (kept_block R2.out BP); replace hy := hide hy))
        refine bodyPost_ret (v := .agg #[.bool false, .slice x1 x2 x3, .slice x4 x5 x6]) (by simp [results, Tryz.results46, go_sem, r0, r1, r2]) rfl ?_
        have q := set3 wBP (w.heap.size + 1 + 1) (.bool false) (.slice x1 x2 x3) (.slice x4 x5 x6)
        rw [ES.out]
        exact ⟨⟨_, rfl, rq_pos (rr_past hy.out (kept_block R2.out BP) q) SC.out.1 SC.out.2.2⟩, (D2.out.then_below BP).then_grown q (by rintro g ⟨⟩; omega)⟩
      | true =>
        have u0 : up0 (bO la) = false := by rw [eA, up0_can hca, hs]; rfl
        have hsl : Hid (cneg la = true) := hs
        have dn : dn0 (bO lb) = false := by rw [eB]; rfl
        have ES := hide (simQ_zero u0 dn)
        clear u0 dn hO oka okb ba bb kx k0 k1 hX HL2 HH2 eA hca hs h1 RL eB h2
        obtain ⟨i0, i1, i2, i3⟩ := (box4 (kept_block A2.out (Below.refl W2.heap.size W2))).1
        obtain ⟨j0, j1, j2, j3⟩ := (box4 (kept_block C2.out (Below.refl W2.heap.size W2))).1
        obtain ⟨y0, y1, y2, -, -, -⟩ := box3 (kept_block Z2.out (Below.refl W2.heap.size W2))
        obtain ⟨r0, r1, r2, f0, f1, f2⟩ := box3 (kept_block R2.out (Below.refl W2.heap.size W2))
        go_wp2_with (first
          | (go_at_call_of 44 (Value.agg #[.bool s1, .slice a1 a2 a3, .slice b1 b2 b3]); refine (QCl.out _ (Below.refl W2.heap.size W2)).mono ?_; rintro e wBL ⟨⟨cBL, rfl, hc1, hc2⟩, bBL⟩; have BL : Below W2.heap.size W2 wBL := Below.then_below (Below.refl W2.heap.size W2) bBL; have hng : cBL < 0 := hc1.2 hsl.out; replace hc1 := hide hc1; replace hc2 := hide hc2; obtain ⟨i0, i1, i2, i3⟩ := (box4 (kept_block A2.out BL)).1; obtain ⟨j0, j1, j2, j3⟩ := (box4 (kept_block C2.out BL)).1; obtain ⟨y0, y1, y2, -, -, -⟩ := box3 (kept_block Z2.out BL); obtain ⟨r0, r1, r2, f0, f1, f2⟩ := box3 (kept_block R2.out BL)))
        refine bodyPost_ret (v := .agg #[.bool false, .slice z1 z2 z3, .slice z4 z5 z6]) (by simp [results, Tryz.results46, go_sem, r0, r1, r2]) rfl ?_
        have q := set3 wBL (w.heap.size + 1 + 1) (.bool false) (.slice z1 z2 z3) (.slice z4 z5 z6)
        rw [ES.out]
        exact ⟨⟨_, rfl, rq_zero (rr_past (HZ.out.below BL) (kept_block R2.out BL) q)⟩, (D2.out.then_below BL).then_grown q (by rintro g ⟨⟩; omega)⟩
  | false =>
    have h1 : la = [] := Classical.byContradiction (fun h => by rw [decide_eq_true h] at hg1; cases hg1)
    have eA : bO la = none := by rw [h1]; rfl
    have u0 : up0 (bO la) = false := by rw [eA]; rfl
    obtain ⟨s', p1, p2, p3, p4, p5, p6, e, -, hz⟩ := HL2.out
    obtain ⟨rfl, rfl, rfl, rfl, rfl, rfl, rfl⟩ := hz rfl
    simp only [Value.agg.injEq, Array.mk.injEq, List.cons.injEq, Value.bool.injEq, Value.slice.injEq, true_and, and_true] at e
    obtain ⟨rfl, ⟨rfl, rfl, rfl⟩, rfl, rfl, rfl⟩ := e
    have RL : Hid (RR W2 (.agg #[.bool false, .slice none 0 0, .slice none 0 0]) false 0 0) := ⟨none, 0, 0, none, 0, 0, rfl, rn_nil W2, rn_nil W2⟩
    cases g2 with
    | true =>
      have h2 : lb ≠ [] := of_decide_eq_true hg2
      have hcb := okB_can okb h2
      have eB := bO_some h2
      obtain ⟨s', p1, p2, p3, p4, p5, p6, e, hr, -⟩ := HH2.out
      simp only [Value.agg.injEq, Array.mk.injEq, List.cons.injEq, Value.bool.injEq, Value.slice.injEq, true_and, and_true] at e
      obtain ⟨rfl, ⟨rfl, rfl, rfl⟩, rfl, rfl, rfl⟩ := e
      have RH := hide (hr rfl)
      rw [eB, szO_some hcb] at bb
      have QCh := hide (fun W (h : Below W2.heap.size W2 W) => rcompare_zero W _ _ (cneg lb) _ _ K (RH.out.below h) (HZ.out.below h) (can_pos hcb) (neg_up hcb) (NB_lt bb.1 kx) (NB_lt bb.2 kx) k0 k1 hK hK1)
      rw [← szO_some hcb, ← eB] at bb
      clear hr
      cases dn : dn0 (bO lb) with
      | true =>
        have bt := bt_dn dn hO
        have SC := hide (M.smp_cop _ _ _ _ bt)
        have ES := hide (simQ_dn u0 dn)
        have dn2 := dn
        rw [eB, dn0_can hcb, Bool.or_eq_true, decide_eq_true_iff] at dn2
        have hdn : Hid (¬ (cneg lb = false ∧ M.dec (cup lb) ≠ 0)) := fun h => by
          rcases dn2 with d | d
          · rw [h.1] at d; cases d
          · exact h.2 d
        have hsg : Hid ((!cneg lb && !decide (M.dec (cup lb) = 0)) = false) := by
          show _ = _
          rcases dn2 with d | d
          · rw [d]; rfl
          · rw [decide_eq_true d]; simp
        have hsgN : Hid ((!false && !decide ((M.smp (szO (bO lb)).1 (szO (bO lb)).2 (szO (bO la)).1 (szO (bO la)).2).1 = 0)) = true) := by
          show _ = _
          rw [decide_eq_false (Nat.ne_of_gt SC.out.2.1)]
          rfl
        have QP := hide (fun W v1 v2 (hv1 : RR W v1 false (M.dec (cup lb)) (M.dec (clow lb))) (hv2 : ED W v2 (decide ((szO (bO la)).2 ≠ 0)) (szO (bO la)).1 (szO (bO la)).2) => rplain_calls K X kX.out hK hK1 _ _ _ _ bt (by rw [eB, szO_some hcb]; exact gcd_can hcb) (fun c => absurd rfl (by rw [eA] at c; exact c)) bb.1 bb.2 ba.1 ba.2 W v1 v2 (by rw [eB, szO_some hcb]; exact hv1) hv2)
        have mkE : Hid (∀ W (s : Bool) (a : Option Addr) (al ac : Nat) (d : Option Addr) (dl dc : Nat), RR W (.agg #[.bool s, .slice a al ac, .slice d dl dc]) false 0 0 → ED W (.agg #[.bool false, .bool s, .slice a al ac, .slice d dl dc]) (decide ((szO (bO la)).2 ≠ 0)) (szO (bO la)).1 (szO (bO la)).2) := fun W s a al ac d dl dc h => by
          rw [eA]
          exact ⟨s, a, al, ac, d, dl, dc, rfl, fun c => by cases c⟩
        have hsg1 : Hid ((!false && !decide ((0 : Nat) = 0)) = false) := by show _ = _; rfl
        clear dn2 bt u0 dn hO oka okb ba bb kx k0 k1 hX HL2 HH2 eA h1 eB hcb h2
        obtain ⟨i0, i1, i2, i3⟩ := (box4 (kept_block A2.out (Below.refl W2.heap.size W2))).1
        obtain ⟨j0, j1, j2, j3⟩ := (box4 (kept_block C2.out (Below.refl W2.heap.size W2))).1
        obtain ⟨y0, y1, y2, -, -, -⟩ := box3 (kept_block Z2.out (Below.refl W2.heap.size W2))
        obtain ⟨r0, r1, r2, f0, f1, f2⟩ := box3 (kept_block R2.out (Below.refl W2.heap.size W2))
        go_upto_region 8 with (first
          | (go_at_call_of 44 (Value.agg #[.bool s2, .slice c1 c2 c3, .slice d1 d2 d3]); refine (QCh.out _ (Below.refl W2.heap.size W2)).mono ?_; rintro e wBH ⟨⟨cBH, rfl, hc1, hc2⟩, bBH⟩; have BH : Below W2.heap.size W2 wBH := Below.then_below (Below.refl W2.heap.size W2) bBH; have hps : ¬ 0 < cBH := fun h => hdn.out (hc2.1 h); replace hc1 := hide hc1; replace hc2 := hide hc2; obtain ⟨i0, i1, i2, i3⟩ := (box4 (kept_block A2.out BH)).1; obtain ⟨j0, j1, j2, j3⟩ := (box4 (kept_block C2.out BH)).1; obtain ⟨y0, y1, y2, -, -, -⟩ := box3 (kept_block Z2.out BH); obtain ⟨r0, r1, r2, f0, f1, f2⟩ := box3 (kept_block R2.out BH)))
        have S8 := hide (And.intro i0 (And.intro i1 (And.intro i2 (And.intro i3 (And.intro j1 (And.intro j2 (And.intro j3 (D2.out.then_below BH))))))))
        have R8 := hide (kept_block R2.out BH)
        have D8 := hide (D2.out.then_below BH)
        have QH8 := hide (ropp_calls)
        have RH8 := hide (RH.out.below BH)
        have RL8 := hide (RL.out.below BH)
        have BH8 := hide BH
        have nA : w.heap.size ≠ w.heap.size + 1 + 1 := by omega
        have nB : w.heap.size + 1 ≠ w.heap.size + 1 + 1 := by omega
        have hH : w.heap.size ≤ w.heap.size + 1 + 1 := by omega
        clear i0 i1 i2 i3 j0 j1 j2 j3 y0 y1 y2 r0 r1 r2 f0 f1 f2 hc1 hc2 hps bBH
        go_region_held3
          (fun w' => w'.cell? ⟨w.heap.size, 0, none⟩ = some (.bool false) ∧ w'.cell? ⟨w.heap.size, 1, none⟩ = some (.bool false) ∧ w'.cell? ⟨w.heap.size, 2, none⟩ = some (.slice none 0 0) ∧ w'.cell? ⟨w.heap.size, 3, none⟩ = some (.slice none 0 0) ∧ w'.cell? ⟨w.heap.size + 1, 1, none⟩ = some (.bool s2) ∧ w'.cell? ⟨w.heap.size + 1, 2, none⟩ = some (.slice c1 c2 c3) ∧ w'.cell? ⟨w.heap.size + 1, 3, none⟩ = some (.slice d1 d2 d3) ∧ Below w.heap.size w w')
          (first
            | with_reducible exact cells7_keep S8.out (bel_drew bel_refl)
            | with_reducible exact cells7_keep S8.out Bc
            | with_reducible exact cells7_keep S8.out Bd
            | with_reducible exact cells7_keep S8.out Be
            | with_reducible exact cells7_keep S8.out Bf
            | with_reducible exact keep7_set3 (cells7_keep S8.out Bf) ⟨nA, nA, nA, nA, nB, nB, nB⟩ hH)
          (first
            | (go_at_call_of 91 (Value.agg #[.bool s2, .slice c1 c2 c3, .slice d1 d2 d3]); refine (ropp_calls _ _ _ _ _ (RH8.out.below (bel_drew bel_refl))).mono ?_; rintro e wc ⟨⟨v, rfl, ho⟩, bc⟩; rw [hsg.out] at ho; have Bc : Below wBH.heap.size wBH wc := Below.then_below (bel_drew bel_refl) bc; have ho1 := ho; obtain ⟨u1a, u2a, u3a, u4a, u5a, u6a, rfl, -, -⟩ := ho1)
            | (go_at_call_of 91 (Value.agg #[.bool false, .slice none 0 0, .slice none 0 0]); refine (ropp_calls _ _ _ _ _ (RL8.out.below Bc)).mono ?_; rintro e wd ⟨⟨v, rfl, hp⟩, bd⟩; replace hp := (show RR wd v false 0 0 from hp); have Bd : Below wBH.heap.size wBH wd := Below.then_below Bc bd; have hp1 := hp; obtain ⟨v1a, v2a, v3a, v4a, v5a, v6a, rfl, -, -⟩ := hp1)
            | (go_at_call 90; refine (QP.out _ _ _ (ho.below bd) (mkE.out _ _ _ _ _ _ _ _ hp)).mono ?_; rintro e we ⟨⟨v, rfl, hq⟩, be⟩; have Be : Below wBH.heap.size wBH we := Below.then_below Bd be; have hq1 := hq; obtain ⟨x1a, x2a, x3a, x4a, x5a, x6a, rfl, -, -⟩ := hq1)
            | (go_at_call 91; refine (ropp_calls _ _ _ _ _ hq).mono ?_; rintro e wf ⟨⟨v, rfl, hr⟩, bf⟩; rw [hsgN.out] at hr; have Bf : Below wBH.heap.size wBH wf := Below.then_below Be bf; have hr1 := hr; obtain ⟨y1a, y2a, y3a, y4a, y5a, y6a, rfl, -, -⟩ := hr1; have Rf := kept_block R8.out Bf; obtain ⟨r0, r1, r2, f0, f1, f2⟩ := box3 Rf))
        go_wp2_with fail
        refine bodyPost_ret (v := .agg #[.bool true, .slice y1a y2a y3a, .slice y4a y5a y6a]) (by simp [results, Tryz.results46, go_sem, r0, r1, r2]) rfl ?_
        have q := set3 wf (w.heap.size + 1 + 1) (.bool true) (.slice y1a y2a y3a) (.slice y4a y5a y6a)
        rw [ES.out]
        exact ⟨⟨_, rfl, rq_neg (rrt_past hr Rf q) SC.out.1 SC.out.2.2 SC.out.2.1⟩, (D8.out.then_below Bf).then_grown q (by rintro g ⟨⟩; omega)⟩
      | false =>
        have dn2 := dn
        rw [eB, dn0_can hcb, Bool.or_eq_false_iff, decide_eq_false_iff_not] at dn2
        have hsh : Hid (cneg lb = false ∧ M.dec (cup lb) ≠ 0) := dn2
        have ES := hide (simQ_zero u0 dn)
        clear dn2
        clear u0 dn hO oka okb ba bb kx k0 k1 hX HL2 HH2 eA h1 eB hcb h2 RH
        obtain ⟨i0, i1, i2, i3⟩ := (box4 (kept_block A2.out (Below.refl W2.heap.size W2))).1
        obtain ⟨j0, j1, j2, j3⟩ := (box4 (kept_block C2.out (Below.refl W2.heap.size W2))).1
        obtain ⟨y0, y1, y2, -, -, -⟩ := box3 (kept_block Z2.out (Below.refl W2.heap.size W2))
        obtain ⟨r0, r1, r2, f0, f1, f2⟩ := box3 (kept_block R2.out (Below.refl W2.heap.size W2))
        go_wp2_with (first
          | (go_at_call_of 44 (Value.agg #[.bool s2, .slice c1 c2 c3, .slice d1 d2 d3]); refine (QCh.out _ (Below.refl W2.heap.size W2)).mono ?_; rintro e wBH ⟨⟨cBH, rfl, hc1, hc2⟩, bBH⟩; have BH : Below W2.heap.size W2 wBH := Below.then_below (Below.refl W2.heap.size W2) bBH; have hps : 0 < cBH := hc2.2 hsh.out; replace hc1 := hide hc1; replace hc2 := hide hc2; obtain ⟨i0, i1, i2, i3⟩ := (box4 (kept_block A2.out BH)).1; obtain ⟨j0, j1, j2, j3⟩ := (box4 (kept_block C2.out BH)).1; obtain ⟨y0, y1, y2, -, -, -⟩ := box3 (kept_block Z2.out BH); obtain ⟨r0, r1, r2, f0, f1, f2⟩ := box3 (kept_block R2.out BH)))
        refine bodyPost_ret (v := .agg #[.bool false, .slice z1 z2 z3, .slice z4 z5 z6]) (by simp [results, Tryz.results46, go_sem, r0, r1, r2]) rfl ?_
        have q := set3 wBH (w.heap.size + 1 + 1) (.bool false) (.slice z1 z2 z3) (.slice z4 z5 z6)
        rw [ES.out]
        exact ⟨⟨_, rfl, rq_zero (rr_past (HZ.out.below BH) (kept_block R2.out BH) q)⟩, (D2.out.then_below BH).then_grown q (by rintro g ⟨⟩; omega)⟩
    | false =>
      have h2 : lb = [] := Classical.byContradiction (fun h => by rw [decide_eq_true h] at hg2; cases hg2)
      have dn : dn0 (bO lb) = false := by rw [h2]; rfl
      have ES := hide (simQ_zero u0 dn)
      clear u0 dn hO oka okb ba bb kx k0 k1 hX HL2 HH2 eA h1 h2
      obtain ⟨i0, i1, i2, i3⟩ := (box4 (kept_block A2.out (Below.refl W2.heap.size W2))).1
      obtain ⟨j0, j1, j2, j3⟩ := (box4 (kept_block C2.out (Below.refl W2.heap.size W2))).1
      obtain ⟨y0, y1, y2, -, -, -⟩ := box3 (kept_block Z2.out (Below.refl W2.heap.size W2))
      obtain ⟨r0, r1, r2, f0, f1, f2⟩ := box3 (kept_block R2.out (Below.refl W2.heap.size W2))
      go_wp2
      refine bodyPost_ret (v := .agg #[.bool false, .slice z1 z2 z3, .slice z4 z5 z6]) (by simp [results, Tryz.results46, go_sem, r0, r1, r2]) rfl ?_
      have q := set3 W2 (w.heap.size + 1 + 1) (.bool false) (.slice z1 z2 z3) (.slice z4 z5 z6)
      rw [ES.out]
      exact ⟨⟨_, rfl, rq_zero (rr_past (HZ.out.below (Below.refl W2.heap.size W2)) (kept_block R2.out (Below.refl W2.heap.size W2)) q)⟩, (D2.out.then_below (Below.refl W2.heap.size W2)).then_grown q (by rintro g ⟨⟩; omega)⟩
end Go.Proofs.YtebnjolkolobhaaGreatDoor
