/-
  The document's plain: where it calls itself.
-/
import Derived.Test.YtebnjolkolobhaaGreatDoorRefPlainG
/- ==== RefPlainS ==== -/
namespace Go.Proofs.YtebnjolkolobhaaGreatDoor
open Go.RowKit
set_option linter.unusedVariables false
set_option maxRecDepth 100000 in
set_option maxHeartbeats 8000000 in
theorem plain_step (K X : Nat) (kX : ((2 * X : Nat) : Int) < M.NB ^ K) (hK : 2 * K + 1 ≤ 17592186044) (hK1 : 1 ≤ K) (lu ll hu hl : Nat) (bt : M.Bt lu ll hu hl) (ht : ¬ (lu / ll + 1) * hl < hu) (ih : PlainAt K X hl (hu - lu / ll * hl) ll (lu % ll)) : PlainAt K X lu ll hu hl := by
  intro g1 g2 b1 b2 b3 b4 w vlo ve hlo hhi
  have hlo' := hlo
  have hhi' := hhi
  obtain ⟨na, nl, nc, da, dl, dc, rfl, -, -⟩ := hlo
  obtain ⟨sh, pa, pl, pc, ra, rl, rc, rfl, -⟩ := hhi
  obtain ⟨is, his⟩ : ∃ is, decide (hl ≠ 0) = is := ⟨_, rfl⟩
  rw [his] at hhi'
  rw [his]
  obtain ⟨A0, C0, R0, B0⟩ := three_new' w (.cells #[.bool false, .slice na nl nc, .slice da dl dc] 59) (.cells #[.bool is, .bool sh, .slice pa pl pc, .slice ra rl rc] 61) (.cells #[.bool false, .slice none 0 0, .slice none 0 0] 59)
  have HLO := hide (hlo'.below B0)
  have HHI := hide (hhi'.below B0)
  have hll : 0 < ll := bt.1
  have hx1 : 1 ≤ 2 * X := by omega
  have kx : ((X : Nat) : Int) < M.NB ^ K := NB_lt (by omega) kX
  have hw : lu / ll ≤ lu := Nat.div_le_self _ _
  have hw1 : lu / ll + 1 ≤ 2 * X := by omega
  have HT := hide ht
  obtain ⟨wv, rv, av, e1, e2, e3, e4, e5, y1, y2, y3, y4⟩ := M.step_parts bt ht
  have h0 : hl ≠ 0 := fun c => by omega
  have is1 : is = true := by rw [← his, decide_eq_true h0]
  subst is1
  obtain ⟨c1, c2⟩ := M.cop_step e4 e5 g1 (g2 h0)
  have BT2 := bt.step ht
  have SM := M.smp_cop _ _ _ _ BT2
  have SL := M.smp_le BT2
  have eS := M.smp_step bt.1 ht
  have IH := hide (ih (by rw [e1, e3]; exact c1) (fun _ => by rw [e2]; exact c2) b4 (by rw [e1, e3]; omega) b2 (by rw [e2]; omega))
  obtain ⟨N, hN⟩ : ∃ N, (M.smp hl (hu - lu / ll * hl) ll (lu % ll)).1 = N := ⟨_, rfl⟩
  obtain ⟨E, hE⟩ : ∃ E, (M.smp hl (hu - lu / ll * hl) ll (lu % ll)).2 = E := ⟨_, rfl⟩
  rw [hN, hE] at IH SM SL eS
  rw [eS]
  rw [e1, e3, e2] at IH SL
  have kN : Hid ((N : Int) < M.NB ^ K) := NB_lt (by have := SL.1; omega) kX
  have kE : Hid ((E : Int) < M.NB ^ K) := NB_lt (by have := SL.2; omega) kX
  clear hN hE eS SL BT2 ih
  replace kX := hide kX
  rw [e1] at hw hw1 ⊢
  clear hlo' hhi' ht his HT g1 g2
  go_enter Tryz.func90, Tryz.ntmps90
  go_upto_region 1 with fail
  generalize (((w.alloc (.cells #[.bool false, .slice na nl nc, .slice da dl dc] 59)).alloc (.cells #[.bool true, .bool sh, .slice pa pl pc, .slice ra rl rc] 61)).alloc (.cells #[.bool false, .slice none 0 0, .slice none 0 0] 59)) = W1 at *
  have QB := hide (rbelow_pos W1 _ lu ll K HLO.out hll (NB_lt b1 kx) (NB_lt b2 kx) (by omega) hK1)
  rw [e1] at QB
  obtain ⟨i0, i1, i2, -, -, -⟩ := box3 A0
  have R0h := hide R0
  have A0h := hide A0
  have C0h := hide C0
  have B0h := hide B0
  clear R0 C0 B0 A0
  go_upto_region 2 with (go_at_call 131; refine QB.out.mono ?_; rintro e wa ⟨⟨v, rfl, hf⟩, ba⟩; have hf' := hf; obtain ⟨fa, fl, fc, ga, gl, gc, rfl, -, -⟩ := hf')
  have B2 := ba.then_below (alloc_below wa (.cells #[.bool false, .slice fa fl fc, .slice ga gl gc] 59))
  have F2 := hide (heap_alloc_new wa (.cells #[.bool false, .slice fa fl fc, .slice ga gl gc] 59))
  have HF := hide (hf.below (alloc_below wa (.cells #[.bool false, .slice fa fl fc, .slice ga gl gc] 59)))
  have R2 := hide (kept_block R0h.out B2)
  have C2 := hide (kept_block C0h.out B2)
  have D2 := hide (B0h.out.then_below B2)
  have HI2 := hide (HHI.out.below B2)
  generalize wa.alloc (.cells #[.bool false, .slice fa fl fc, .slice ga gl gc] 59) = W2 at *
  have hn5 : Hid (wa.heap.size ≠ w.heap.size + 1 + 1) := fun e => by have h1 := (Array.getElem?_eq_some_iff.1 R0h.out).1; have h2 := ba.size; omega
  generalize wa.heap.size = g5 at *
  have A2 := hide (kept_block A0h.out B2)
  have HL2 := hide (HLO.out.below B2)
  clear QB R0h C0h B0h A0h HHI HLO B2 ba hf i0 i1 i2
  have QW := hide (fun W => rwhole_calls W 1 (by decide))
  have QP := hide (fun W v (h : Below W2.heap.size W2 W) (hv : RR W v false 1 1) => rplus_pos W _ v wv 1 1 1 K (wv + 1) 1 (HF.out.below h) hv Nat.one_pos Nat.one_pos (NB_lt (Nat.le_trans hw b1) kx) (NB_lt hx1 kX.out) (NB_lt hx1 kX.out) (NB_lt hx1 kX.out) hK hK1 (by simp) (by simp))
  obtain ⟨i0, i1, i2, -, -, -⟩ := box3 F2.out
  have S0 := hide (And.intro i0 (And.intro i1 (And.intro i2 (Below.refl W2.heap.size W2))))
  clear i0 i1 i2
  go_cut [6] (fun sx wx => ∃ (gx : Nat) (a : Option Addr) (al ac : Nat) (d : Option Addr) (dl dc : Nat), sx = .pointer (some ⟨gx, 0, none⟩) ∧ Hid (OneRR W2 wx gx a al ac d dl dc (wv + 1) 1))
  case first =>
    go_region_held3
      (fun w' => w'.cell? ⟨g5, 0, none⟩ = some (.bool false) ∧ w'.cell? ⟨g5, 1, none⟩ = some (.slice fa fl fc) ∧ w'.cell? ⟨g5, 2, none⟩ = some (.slice ga gl gc) ∧ Below W2.heap.size W2 w')
      (exact cells3_keep (w := W2) S0.out (by first | with_reducible exact bel_drew bel_refl | with_reducible exact bel_drew (bel_alloc (bel_refl)) | with_reducible exact bel_alloc (bel_drew bel_refl) | with_reducible exact Ba | with_reducible exact bel_alloc (Ba) | with_reducible exact bw | with_reducible exact bel_alloc (bw) | with_reducible exact bel_set3 (bw) (by omega) | with_reducible exact bel_alloc (bel_alloc (bw)) | with_reducible exact bel_set3 (bel_alloc (bw)) (by omega) | with_reducible exact bel_alloc (bel_set3 (bw) (by omega)) | with_reducible exact bel_set3 (bel_set3 (bw) (by omega)) (by omega)))
      (first
        | (go_at_call 89; refine (QW.out _).mono ?_; rintro e wa ⟨⟨v, rfl, hv⟩, ba⟩; have hv' := hv; obtain ⟨ea, el, ec, qa, ql, qc, rfl, -, -⟩ := hv'; have Ba : Below W2.heap.size W2 wa := Below.then_below (by first | with_reducible exact bel_drew bel_refl | with_reducible exact bel_drew (bel_alloc (bel_refl)) | with_reducible exact bel_alloc (bel_drew bel_refl)) ba; have sa : W2.heap.size ≤ wa.heap.size := Ba.size; (first | (have AZ0 : wa.heap[W2.heap.size]? = some (.cells #[.bool false, .slice none 0 0, .slice none 0 0] 59 (0, 0)) := kept_block (by exact heap_alloc_new W2 (.cells #[.bool false, .slice none 0 0, .slice none 0 0] 59)) ba; have lAZ0 : W2.heap.size < wa.heap.size := (Array.getElem?_eq_some_iff.1 AZ0).1; have nAZ0 : W2.heap.size ≠ wa.heap.size := Nat.ne_of_lt lAZ0; have mAZ0 : wa.heap.size ≠ W2.heap.size := Nat.ne_of_gt lAZ0) | skip))
        | (go_at_call 130; refine (QP.out _ _ (by first | with_reducible exact Ba | with_reducible exact bel_alloc (Ba)) (hv.below (by first | with_reducible exact bel_refl | with_reducible exact bel_alloc (bel_refl)))).mono ?_; rintro e wb ⟨⟨v, rfl, hb⟩, bb⟩; have hb' := hb; obtain ⟨s1, s2, s3, s4, s5, s6, rfl, -, -⟩ := hb'; have BAB : Below wa.heap.size wa wb := Below.then_below (by first | with_reducible exact bel_refl | with_reducible exact bel_alloc (bel_refl)) bb; have bw : Below W2.heap.size W2 wb := Ba.then_below BAB; have sb : wa.heap.size ≤ wb.heap.size := BAB.size; have sab : W2.heap.size ≤ wb.heap.size := bw.size; (first | (have AK0 : wb.heap[W2.heap.size]? = some (.cells #[.bool false, .slice none 0 0, .slice none 0 0] 59 (0, 0)) := kept_block AZ0 BAB; obtain ⟨cAK00, cAK01, cAK02, zAK00, zAK01, zAK02⟩ := box3 AK0; have lAK0 : W2.heap.size < wb.heap.size := (Array.getElem?_eq_some_iff.1 AK0).1; have nAK0 : W2.heap.size ≠ wb.heap.size := Nat.ne_of_lt lAK0; have mAK0 : wb.heap.size ≠ W2.heap.size := Nat.ne_of_gt lAK0) | skip); (first | (have AY0 : wb.heap[wa.heap.size]? = some (.cells #[.bool false, .slice none 0 0, .slice none 0 0] 59 (0, 0)) := kept_block (by with_reducible exact heap_alloc_new wa (.cells #[.bool false, .slice none 0 0, .slice none 0 0] 59)) bb; obtain ⟨cAY00, cAY01, cAY02, zAY00, zAY01, zAY02⟩ := box3 AY0; have lAY0 : wa.heap.size < wb.heap.size := (Array.getElem?_eq_some_iff.1 AY0).1; have nAY0 : wa.heap.size ≠ wb.heap.size := Nat.ne_of_lt lAY0; have mAY0 : wb.heap.size ≠ wa.heap.size := Nat.ne_of_gt lAY0) | skip)))
    all_goals (go_wp2_with fail; go_meet)
    all_goals first
      | with_reducible exact ⟨_, s1, s2, s3, s4, s5, s6, rfl, hide (or_alloc bw hb)⟩
      | with_reducible exact ⟨_, s1, s2, s3, s4, s5, s6, rfl, hide (or_set bw hb AK0 (by omega))⟩
      | with_reducible exact ⟨_, s1, s2, s3, s4, s5, s6, rfl, hide (or_set bw hb AY0 (by omega))⟩
  case rest =>
  obtain ⟨g6, s1, s2, s3, s4, s5, s6, rfl, T⟩ := hcut
  rename World => W3
  obtain ⟨p6, hn, h6, B3⟩ := T.out
  have D3 := hide (D2.out.then_below B3)
  have R3 := hide (kept_block R2.out B3)
  have C3 := hide (kept_block C2.out B3)
  have HI3 := hide (HI2.out.below B3)
  have P6 := hide p6
  have HN := hide hn
  have A3 := hide (kept_block A2.out B3)
  have F3 := hide (kept_block F2.out B3)
  have HL3 := hide (HL2.out.below B3)
  have HF3 := hide (HF.out.below B3)
  clear T S0 QP D2 R2 C2 HI2 F2 HF A2 HL2 p6 hn h6 B3
  obtain ⟨s, na', nl', nc', da', dl', dc', e, hr⟩ := HI3.out
  have hr' := hr rfl
  simp only [Value.agg.injEq, Array.mk.injEq, List.cons.injEq, Value.bool.injEq, Value.slice.injEq, true_and, and_true] at e
  obtain ⟨rfl, ⟨rfl, rfl, rfl⟩, rfl, rfl, rfl⟩ := e
  have hsh : sh = false := by
    obtain ⟨_, _, _, _, _, _, e2', -, -⟩ := hr'
    simp only [Value.agg.injEq, Array.mk.injEq, List.cons.injEq, Value.bool.injEq] at e2'
    exact e2'.1
  subst hsh
  have HH := hide hr'
  have QC := hide (rcompare_pos W3 _ _ (wv + 1) 1 hu hl K HN.out hr' Nat.one_pos (Nat.pos_of_ne_zero h0) (NB_lt hw1 kX.out) (NB_lt hx1 kX.out) (NB_lt b3 kx) (NB_lt b4 kx) hK hK1)
  have hge : ¬ (wv + 1) * hl < hu * 1 := by rw [Nat.add_mul, Nat.mul_one]; omega
  have HGE := hide hge
  clear hr hr' HI3 hge
  obtain ⟨j0, j1, j2, j3⟩ := (box4 C3.out).1
  obtain ⟨i0, i1, i2, -, -, -⟩ := box3 P6.out
  go_upto_region 5 with (go_at_call 44; refine QC.out.mono ?_; rintro e wa ⟨⟨c, rfl, hc, -⟩, ba⟩; have hneg : ¬ c < 0 := fun h => HGE.out (hc.1 h); replace hc := hide hc)
  have B5 := ba.then_below (Below.refl wa.heap.size wa)
  have D5 := hide (D3.out.then_below B5)
  have R5 := hide (kept_block R3.out B5)
  have C5 := hide (kept_block C3.out B5)
  have A5 := hide (kept_block A3.out B5)
  have F5 := hide (kept_block F3.out B5)
  have HL5 := hide (HL3.out.below B5)
  have HF5 := hide (HF3.out.below B5)
  have HH5 := hide (HH.out.below B5)
  clear QC D3 R3 C3 A3 F3 HL3 HF3 HH P6 HN B5 ba hc hneg HGE i0 i1 i2 j0 j1 j2 j3
  have X7 := hide (heap_alloc_new wa (.cells #[.bool false, .bool false, .slice none 0 0, .slice none 0 0] 61))
  have BA := alloc_below wa (.cells #[.bool false, .bool false, .slice none 0 0, .slice none 0 0] 61)
  have R6 := hide (kept_block R5.out BA)
  have C6 := hide (kept_block C5.out BA)
  have A6 := hide (kept_block A5.out BA)
  have F6 := hide (kept_block F5.out BA)
  have HL6 := hide (HL5.out.below BA)
  have HF6 := hide (HF5.out.below BA)
  have BA6 := hide BA
  have n71 : w.heap.size ≠ wa.heap.size := Nat.ne_of_lt (Array.getElem?_eq_some_iff.1 A5.out).1
  have n75 : g5 ≠ wa.heap.size := Nat.ne_of_lt (Array.getElem?_eq_some_iff.1 F5.out).1
  clear BA
  have QC6 := hide (rcompare_pos (wa.alloc (.cells #[.bool false, .bool false, .slice none 0 0, .slice none 0 0] 61)) _ _ lu ll wv 1 K HL6.out HF6.out hll Nat.one_pos (NB_lt b1 kx) (NB_lt b2 kx) (NB_lt (by omega) kX.out) (NB_lt hx1 kX.out) hK hK1)
  have hcr : Hid (rv = 0 ↔ ¬ wv * ll < lu * 1) := by
    show _ ↔ _
    rw [Nat.mul_one, e4, Nat.mul_comm wv ll]
    omega
  obtain ⟨i0, i1, i2, -, -, -⟩ := box3 A6.out
  obtain ⟨j0, j1, j2, -, -, -⟩ := box3 F6.out
  go_upto_if 29 with (go_at_call 44; refine QC6.out.mono ?_; rintro e wb ⟨⟨cv, rfl, -, hcv⟩, bb⟩; replace hcv := hide hcv)
  have A7 := hide (kept_block A6.out bb)
  have F7 := hide (kept_block F6.out bb)
  have R7 := hide (kept_block R6.out bb)
  have C7 := hide (kept_block C6.out bb)
  have X77 := hide (kept_block X7.out bb)
  have D7 := hide (BA6.out.then_below bb)
  have HL7 := hide (HL6.out.below bb)
  have HF7 := hide (HF6.out.below bb)
  obtain ⟨g7, hg7⟩ : ∃ g7, wa.heap.size = g7 := ⟨_, rfl⟩
  rw [hg7] at X77 n71 n75 ⊢
  have G7 : Hid (wa.heap.size ≤ g7) := Nat.le_of_eq hg7
  clear hg7 QC6 A6 F6 R6 C6 X7 BA6 HL6 HF6 bb i0 i1 i2 j0 j1 j2
  go_cut [7] (fun s7 wx => s7 = .pointer (some ⟨g7, 0, none⟩) ∧ ∃ (i2 z : Bool) (ea : Option Addr) (el ec : Nat) (qa : Option Addr) (ql qc : Nat), Hid (wx.heap[g7]? = some (.cells #[.bool i2, .bool z, .slice ea el ec, .slice qa ql qc] 61 (0, 0))) ∧ Hid (ED wx (.agg #[.bool i2, .bool z, .slice ea el ec, .slice qa ql qc]) (decide (rv ≠ 0)) ll rv) ∧ Hid (Below wa.heap.size wa wx))
  case first =>
    by_cases hr0 : rv = 0
    · have dr : decide (rv ≠ 0) = false := decide_eq_false (fun h => h hr0)
      have hneg : ¬ 0 < cv := fun h => hcr.out.1 hr0 (hcv.out.1 h)
      replace dr := hide dr
      clear hr0
      go_wp2
      go_meet
      rw [dr.out]
      exact ⟨rfl, false, false, none, 0, 0, none, 0, 0, X77.out, ⟨false, none, 0, 0, none, 0, 0, rfl, fun h => by cases h⟩, D7.out⟩
    · have dr : decide (rv ≠ 0) = true := decide_eq_true hr0
      have hnc : Hid (wv * ll < lu * 1) := Classical.byContradiction (fun h => hr0 (hcr.out.2 h))
      have hneg : 0 < cv := hcv.out.2 hnc.out
      have r0 : 0 < rv := Nat.pos_of_ne_zero hr0
      replace dr := hide dr
      clear hr0
      go_upto_region 7 with fail
      obtain ⟨i0, i1, i2, -, -, -⟩ := box3 A7.out
      obtain ⟨j0, j1, j2, -, -, -⟩ := box3 F7.out
      have S0 := hide (And.intro i0 (And.intro i1 (And.intro i2 (And.intro j0 (And.intro j1 (And.intro j2 D7.out))))))
      have r0h := hide r0
      have esub : lu * 1 - wv * ll = rv := by rw [Nat.mul_one, e4, Nat.mul_comm wv ll]; omega
      have QL := hide (fun W (h : Below wb.heap.size wb W) => rless_pos W _ _ lu ll wv 1 K rv ll (HL7.out.below h) (HF7.out.below h) hll Nat.one_pos (NB_lt b1 kx) (NB_lt b2 kx) (NB_lt (by omega) kX.out) (NB_lt hx1 kX.out) hK hK1 (by have := hnc.out; omega) (by rw [esub, Nat.mul_one, Nat.gcd_comm, c2, Nat.div_one]) (by rw [esub, Nat.mul_one, Nat.gcd_comm, c2, Nat.div_one]))
      have QO := hide (fun W u v (hu : RR W u false 1 1) (hv : RR W v false rv ll) => rover_one W u v rv ll K hu hv r0h.out hll (by rw [Nat.gcd_comm]; exact c2) (NB_lt (by omega) kX.out) (NB_lt b2 kx) (by omega) hK1)
      clear i0 i1 i2 j0 j1 j2 r0 hneg
      go_region_held3
        (fun w' => w'.cell? ⟨w.heap.size, 0, none⟩ = some (.bool false) ∧ w'.cell? ⟨w.heap.size, 1, none⟩ = some (.slice na nl nc) ∧ w'.cell? ⟨w.heap.size, 2, none⟩ = some (.slice da dl dc) ∧ w'.cell? ⟨g5, 0, none⟩ = some (.bool false) ∧ w'.cell? ⟨g5, 1, none⟩ = some (.slice fa fl fc) ∧ w'.cell? ⟨g5, 2, none⟩ = some (.slice ga gl gc) ∧ Below wa.heap.size wa w')
        (first
          | with_reducible exact cells6_keep S0.out (bel_drew bel_refl)
          | with_reducible exact cells6_keep S0.out Bc
          | with_reducible exact cells6_keep S0.out Bd
          | with_reducible exact cells6_keep S0.out Be
          | with_reducible exact keep6_set4 (cells6_keep S0.out Be) n71 n75 G7.out)
        (first
          | (go_at_call 89; refine (QW.out _).mono ?_; rintro e wc ⟨⟨v, rfl, hv⟩, bc⟩; have Bc : Below wb.heap.size wb wc := Below.then_below (bel_drew bel_refl) bc; have hv1 := hv; obtain ⟨t1, t2, t3, t4, t5, t6, rfl, -, -⟩ := hv1)
          | (go_at_call 88; refine (QL.out _ Bc).mono ?_; rintro e wd ⟨⟨v, rfl, hl'⟩, bd⟩; have Bd : Below wb.heap.size wb wd := Below.then_below Bc bd; have hl1 := hl'; obtain ⟨u1, u2, u3, u4, u5, u6, rfl, -, -⟩ := hl1)
          | (go_at_call 132; refine (QO.out _ _ _ (hv.below bd) hl').mono ?_; rintro e we ⟨⟨v, rfl, ho⟩, be⟩; have Be : Below wb.heap.size wb we := Below.then_below Bd be; have ho1 := ho; obtain ⟨v1, v2, v3, v4, v5, v6, rfl, -, -⟩ := ho1; have Xe := kept_block X77.out Be; obtain ⟨⟨z0, z1, z2, z3⟩, f0, f1, f2, f3⟩ := box4 Xe))
      go_wp2_with fail
      go_meet
      have q := box4_grown we g7 (.bool true) (.bool false) (.slice v1 v2 v3) (.slice v4 v5 v6)
      rw [dr.out]
      exact ⟨rfl, true, false, v1, v2, v3, v4, v5, v6, box4_store Xe _ _ _ _, ⟨false, v1, v2, v3, v4, v5, v6, rfl, fun _ => rr_past4 ho Xe q⟩, (D7.out.then_below Be).then_grown q (by rintro g ⟨⟩; exact G7.out)⟩
  case rest =>
  obtain ⟨rfl, i2, z, ea, el, ec, qa, ql, qc, P7, HE7, B7⟩ := hcut
  rename World => W8
  have R8 := hide (kept_block R5.out B7.out)
  have C8 := kept_block C5.out B7.out
  have F8 := kept_block F5.out B7.out
  have HF8 := hide (HF5.out.below B7.out)
  have HH8 := hide (HH5.out.below B7.out)
  have D8 := hide (D5.out.then_below B7.out)
  clear R5 C5 A5 F5 HL5 HF5 HH5 D5 B7 R7 C7 A7 F7 X77 D7 HL7 HF7 G7 hcv hcr n71 n75
  obtain ⟨j0, j1, j2, j3⟩ := (box4 C8).1
  obtain ⟨i0, i1, i2, -, -, -⟩ := box3 F8
  obtain ⟨k0, k1, k2, k3⟩ := (box4 P7.out).1
  have S0 := hide (And.intro j1 (And.intro j2 (And.intro j3 (And.intro i0 (And.intro i1 (And.intro i2 (And.intro k0 (And.intro k1 (And.intro k2 (And.intro k3 (Below.refl W8.heap.size W8)))))))))))
  have F8h := hide F8
  clear j0 j1 j2 j3 i0 i1 i2 k0 k1 k2 k3 C8 F8
  have hl0 : 0 < hl := Nat.pos_of_ne_zero h0
  have esub : hu * 1 - wv * hl = av := by rw [Nat.mul_one, e5]; omega
  have QL := hide (fun W (h : Below W8.heap.size W8 W) => rless_pos W _ _ hu hl wv 1 K av hl (HH8.out.below h) (HF8.out.below h) hl0 Nat.one_pos (NB_lt b3 kx) (NB_lt b4 kx) (NB_lt (by omega) kX.out) (NB_lt hx1 kX.out) hK hK1 (by rw [Nat.mul_one, e5]; omega) (by rw [esub, Nat.mul_one, Nat.gcd_comm, c1, Nat.div_one]) (by rw [esub, Nat.mul_one, Nat.gcd_comm, c1, Nat.div_one]))
  have QO := hide (fun W u v (hu' : RR W u false 1 1) (hv : RR W v false av hl) => rover_one W u v av hl K hu' hv y3 hl0 (by rw [Nat.gcd_comm]; exact c1) (NB_lt (by omega) kx) (NB_lt b4 kx) (by omega) hK1)
  go_upto_region 8 with fail
  go_cut [8] (fun sx wx => ∃ (gx : Nat) (a : Option Addr) (al ac : Nat) (d : Option Addr) (dl dc : Nat), sx = .pointer (some ⟨gx, 0, none⟩) ∧ Hid (OneRR W8 wx gx a al ac d dl dc N E))
  case first =>
    go_region_held3
      (fun w' => w'.cell? ⟨w.heap.size + 1, 1, none⟩ = some (.bool false) ∧ w'.cell? ⟨w.heap.size + 1, 2, none⟩ = some (.slice pa pl pc) ∧ w'.cell? ⟨w.heap.size + 1, 3, none⟩ = some (.slice ra rl rc) ∧ w'.cell? ⟨g5, 0, none⟩ = some (.bool false) ∧ w'.cell? ⟨g5, 1, none⟩ = some (.slice fa fl fc) ∧ w'.cell? ⟨g5, 2, none⟩ = some (.slice ga gl gc) ∧ w'.cell? ⟨g7, 0, none⟩ = some (.bool i2) ∧ w'.cell? ⟨g7, 1, none⟩ = some (.bool z) ∧ w'.cell? ⟨g7, 2, none⟩ = some (.slice ea el ec) ∧ w'.cell? ⟨g7, 3, none⟩ = some (.slice qa ql qc) ∧ Below W8.heap.size W8 w')
      (exact cells10_keep (w := W8) S0.out (by first | with_reducible exact bel_drew bel_refl | with_reducible exact bel_drew (bel_alloc (bel_refl)) | with_reducible exact bel_alloc (bel_drew bel_refl) | with_reducible exact Bc | with_reducible exact bel_alloc (Bc) | with_reducible exact Bd | with_reducible exact bel_alloc (Bd) | with_reducible exact Be | with_reducible exact bel_alloc (Be) | with_reducible exact Bf | with_reducible exact bel_alloc (Bf) | with_reducible exact bel_set3 (Bf) (by omega) | with_reducible exact bel_alloc (bel_alloc (Bf)) | with_reducible exact bel_set3 (bel_alloc (Bf)) (by omega) | with_reducible exact bel_alloc (bel_set3 (Bf) (by omega)) | with_reducible exact bel_set3 (bel_set3 (Bf) (by omega)) (by omega)))
      (first
        | (go_at_call 89; refine (QW.out _).mono ?_; rintro e wc ⟨⟨v, rfl, hv⟩, bc⟩; have hv1 := hv; obtain ⟨t1, t2, t3, t4, t5, t6, rfl, -, -⟩ := hv1; have Bc : Below W8.heap.size W8 wc := Below.then_below (by first | with_reducible exact bel_drew bel_refl | with_reducible exact bel_drew (bel_alloc (bel_refl)) | with_reducible exact bel_alloc (bel_drew bel_refl)) bc; have sc : W8.heap.size ≤ wc.heap.size := Bc.size; (first | (have AZ0 : wc.heap[W8.heap.size]? = some (.cells #[.bool false, .slice none 0 0, .slice none 0 0] 59 (0, 0)) := kept_block (by exact heap_alloc_new W8 (.cells #[.bool false, .slice none 0 0, .slice none 0 0] 59)) bc; have lAZ0 : W8.heap.size < wc.heap.size := (Array.getElem?_eq_some_iff.1 AZ0).1; have nAZ0 : W8.heap.size ≠ wc.heap.size := Nat.ne_of_lt lAZ0; have mAZ0 : wc.heap.size ≠ W8.heap.size := Nat.ne_of_gt lAZ0) | skip))
        | (go_at_call 88; refine (QL.out _ (by first | with_reducible exact Bc | with_reducible exact bel_alloc (Bc))).mono ?_; rintro e wd ⟨⟨v, rfl, hl'⟩, bd⟩; have hl1 := hl'; obtain ⟨u1, u2, u3, u4, u5, u6, rfl, -, -⟩ := hl1; have BCD : Below wc.heap.size wc wd := Below.then_below (by first | with_reducible exact bel_refl | with_reducible exact bel_alloc (bel_refl)) bd; have Bd : Below W8.heap.size W8 wd := Bc.then_below BCD; have sd : wc.heap.size ≤ wd.heap.size := BCD.size; (first | (have AK0 : wd.heap[W8.heap.size]? = some (.cells #[.bool false, .slice none 0 0, .slice none 0 0] 59 (0, 0)) := kept_block AZ0 BCD; have lAK0 : W8.heap.size < wd.heap.size := (Array.getElem?_eq_some_iff.1 AK0).1; have nAK0 : W8.heap.size ≠ wd.heap.size := Nat.ne_of_lt lAK0; have mAK0 : wd.heap.size ≠ W8.heap.size := Nat.ne_of_gt lAK0) | skip); (first | (have AY0 : wd.heap[wc.heap.size]? = some (.cells #[.bool false, .slice none 0 0, .slice none 0 0] 59 (0, 0)) := kept_block (by with_reducible exact heap_alloc_new wc (.cells #[.bool false, .slice none 0 0, .slice none 0 0] 59)) bd; have lAY0 : wc.heap.size < wd.heap.size := (Array.getElem?_eq_some_iff.1 AY0).1; have nAY0 : wc.heap.size ≠ wd.heap.size := Nat.ne_of_lt lAY0; have mAY0 : wd.heap.size ≠ wc.heap.size := Nat.ne_of_gt lAY0) | skip))
        | (go_at_call 132; refine (QO.out _ _ _ ((hv.below BCD).below (by first | with_reducible exact bel_refl | with_reducible exact bel_alloc (bel_refl))) (hl'.below (by first | with_reducible exact bel_refl | with_reducible exact bel_alloc (bel_refl)))).mono ?_; rintro e we ⟨⟨v, rfl, ho⟩, be⟩; have ho1 := ho; obtain ⟨v1, v2, v3, v4, v5, v6, rfl, -, -⟩ := ho1; have BDE : Below wd.heap.size wd we := Below.then_below (by first | with_reducible exact bel_refl | with_reducible exact bel_alloc (bel_refl)) be; have Be : Below W8.heap.size W8 we := Bd.then_below BDE; have se : wd.heap.size ≤ we.heap.size := BDE.size; (first | (have AL0 : we.heap[W8.heap.size]? = some (.cells #[.bool false, .slice none 0 0, .slice none 0 0] 59 (0, 0)) := kept_block AK0 BDE; have lAL0 : W8.heap.size < we.heap.size := (Array.getElem?_eq_some_iff.1 AL0).1; have nAL0 : W8.heap.size ≠ we.heap.size := Nat.ne_of_lt lAL0; have mAL0 : we.heap.size ≠ W8.heap.size := Nat.ne_of_gt lAL0) | skip); (first | (have AM0 : we.heap[wc.heap.size]? = some (.cells #[.bool false, .slice none 0 0, .slice none 0 0] 59 (0, 0)) := kept_block AY0 BDE; have lAM0 : wc.heap.size < we.heap.size := (Array.getElem?_eq_some_iff.1 AM0).1; have nAM0 : wc.heap.size ≠ we.heap.size := Nat.ne_of_lt lAM0; have mAM0 : we.heap.size ≠ wc.heap.size := Nat.ne_of_gt lAM0) | skip); (first | (have AX0 : we.heap[wd.heap.size]? = some (.cells #[.bool false, .slice none 0 0, .slice none 0 0] 59 (0, 0)) := kept_block (by with_reducible exact heap_alloc_new wd (.cells #[.bool false, .slice none 0 0, .slice none 0 0] 59)) be; have lAX0 : wd.heap.size < we.heap.size := (Array.getElem?_eq_some_iff.1 AX0).1; have nAX0 : wd.heap.size ≠ we.heap.size := Nat.ne_of_lt lAX0; have mAX0 : we.heap.size ≠ wd.heap.size := Nat.ne_of_gt lAX0) | skip))
        | (go_at_call 90; refine (IH.out _ _ _ (ho.below (by first | with_reducible exact bel_refl | with_reducible exact bel_alloc (bel_refl))) (HE7.out.below (by first | with_reducible exact Be | with_reducible exact bel_alloc (Be)))).mono ?_; rintro e wf ⟨⟨v, rfl, hy⟩, bf⟩; have hy1 := hy; obtain ⟨x1, x2, x3, x4, x5, x6, rfl, -, -⟩ := hy1; have BEF : Below we.heap.size we wf := Below.then_below (by first | with_reducible exact bel_refl | with_reducible exact bel_alloc (bel_refl)) bf; have Bf : Below W8.heap.size W8 wf := Be.then_below BEF; have sf : we.heap.size ≤ wf.heap.size := BEF.size; (first | (have AP0 : wf.heap[W8.heap.size]? = some (.cells #[.bool false, .slice none 0 0, .slice none 0 0] 59 (0, 0)) := kept_block AL0 BEF; obtain ⟨cAP00, cAP01, cAP02, zAP00, zAP01, zAP02⟩ := box3 AP0; have lAP0 : W8.heap.size < wf.heap.size := (Array.getElem?_eq_some_iff.1 AP0).1; have nAP0 : W8.heap.size ≠ wf.heap.size := Nat.ne_of_lt lAP0; have mAP0 : wf.heap.size ≠ W8.heap.size := Nat.ne_of_gt lAP0) | skip); (first | (have AQ0 : wf.heap[wc.heap.size]? = some (.cells #[.bool false, .slice none 0 0, .slice none 0 0] 59 (0, 0)) := kept_block AM0 BEF; obtain ⟨cAQ00, cAQ01, cAQ02, zAQ00, zAQ01, zAQ02⟩ := box3 AQ0; have lAQ0 : wc.heap.size < wf.heap.size := (Array.getElem?_eq_some_iff.1 AQ0).1; have nAQ0 : wc.heap.size ≠ wf.heap.size := Nat.ne_of_lt lAQ0; have mAQ0 : wf.heap.size ≠ wc.heap.size := Nat.ne_of_gt lAQ0) | skip); (first | (have AR0 : wf.heap[wd.heap.size]? = some (.cells #[.bool false, .slice none 0 0, .slice none 0 0] 59 (0, 0)) := kept_block AX0 BEF; obtain ⟨cAR00, cAR01, cAR02, zAR00, zAR01, zAR02⟩ := box3 AR0; have lAR0 : wd.heap.size < wf.heap.size := (Array.getElem?_eq_some_iff.1 AR0).1; have nAR0 : wd.heap.size ≠ wf.heap.size := Nat.ne_of_lt lAR0; have mAR0 : wf.heap.size ≠ wd.heap.size := Nat.ne_of_gt lAR0) | skip); (first | (have AS0 : wf.heap[we.heap.size]? = some (.cells #[.bool false, .slice none 0 0, .slice none 0 0] 59 (0, 0)) := kept_block (by with_reducible exact heap_alloc_new we (.cells #[.bool false, .slice none 0 0, .slice none 0 0] 59)) bf; obtain ⟨cAS00, cAS01, cAS02, zAS00, zAS01, zAS02⟩ := box3 AS0; have lAS0 : we.heap.size < wf.heap.size := (Array.getElem?_eq_some_iff.1 AS0).1; have nAS0 : we.heap.size ≠ wf.heap.size := Nat.ne_of_lt lAS0; have mAS0 : wf.heap.size ≠ we.heap.size := Nat.ne_of_gt lAS0) | skip)))
    all_goals (go_wp2_with fail; go_meet)
    all_goals first
      | with_reducible exact ⟨_, x1, x2, x3, x4, x5, x6, rfl, hide (or_alloc Bf hy)⟩
      | with_reducible exact ⟨_, x1, x2, x3, x4, x5, x6, rfl, hide (or_set Bf hy AP0 (by omega))⟩
      | with_reducible exact ⟨_, x1, x2, x3, x4, x5, x6, rfl, hide (or_set Bf hy AQ0 (by omega))⟩
      | with_reducible exact ⟨_, x1, x2, x3, x4, x5, x6, rfl, hide (or_set Bf hy AR0 (by omega))⟩
      | with_reducible exact ⟨_, x1, x2, x3, x4, x5, x6, rfl, hide (or_set Bf hy AS0 (by omega))⟩
  case rest =>
  obtain ⟨g8, x1, x2, x3, x4, x5, x6, rfl, T⟩ := hcut
  rename World => W9
  obtain ⟨p8, hy, h8, B9⟩ := T.out
  have R9 := hide (kept_block R8.out B9)
  have D9 := hide (D8.out.then_below B9)
  have HF9 := hide (HF8.out.below B9)
  have HY := hide hy
  have F9 := kept_block F8h.out B9
  obtain ⟨i0, i1, i2, -, -, -⟩ := box3 F9
  obtain ⟨j0, j1, j2, -, -, -⟩ := box3 p8
  have S9 := hide (And.intro i0 (And.intro i1 (And.intro i2 (And.intro j0 (And.intro j1 (And.intro j2 D9.out))))))
  have lr : w.heap.size + 1 + 1 < W8.heap.size := (Array.getElem?_eq_some_iff.1 R8.out).1
  have n8 : g8 ≠ w.heap.size + 1 + 1 := by omega
  have hH : w.heap.size ≤ w.heap.size + 1 + 1 := by omega
  have n5 : g5 ≠ w.heap.size + 1 + 1 := hn5.out
  have QO9 := hide (fun W u v (hu' : RR W u false 1 1) (hv : RR W v false N E) => rover_one W u v N E K hu' hv SM.2.1 SM.2.2 SM.1 kN.out kE.out (by omega) hK1)
  have hgc : Nat.gcd (wv * N + E) N = 1 := by
    rw [Nat.gcd_comm, Nat.gcd_mul_right_add_right]
    exact SM.1
  have QP9 := hide (fun W v (h : Below W9.heap.size W9 W) (hv : RR W v false E N) => rplus_pos W _ v wv 1 E N K (wv * N + E) N (HF9.out.below h) hv Nat.one_pos SM.2.1 (NB_lt (by omega) kX.out) (NB_lt hx1 kX.out) kE.out kN.out hK hK1 (by rw [Nat.mul_one, Nat.one_mul, hgc, Nat.div_one]) (by rw [Nat.mul_one, Nat.one_mul, hgc, Nat.div_one]))
  clear T S0 QL QO R8 D8 HF8 HH8 p8 hy h8 B9 F9 i0 i1 i2 j0 j1 j2 lr IH HE7 P7
  go_upto_region 9 with fail
  go_region_held3
    (fun w' => w'.cell? ⟨g5, 0, none⟩ = some (.bool false) ∧ w'.cell? ⟨g5, 1, none⟩ = some (.slice fa fl fc) ∧ w'.cell? ⟨g5, 2, none⟩ = some (.slice ga gl gc) ∧ w'.cell? ⟨g8, 0, none⟩ = some (.bool false) ∧ w'.cell? ⟨g8, 1, none⟩ = some (.slice x1 x2 x3) ∧ w'.cell? ⟨g8, 2, none⟩ = some (.slice x4 x5 x6) ∧ Below w.heap.size w w')
    (first
      | with_reducible exact cells6_keep S9.out (bel_drew bel_refl)
      | with_reducible exact cells6_keep S9.out Bc
      | with_reducible exact cells6_keep S9.out Bd
      | with_reducible exact cells6_keep S9.out Be
      | with_reducible exact keep6_set3 (cells6_keep S9.out Be) n5 n8 hH)
    (first
      | (go_at_call 89; refine (QW.out _).mono ?_; rintro e wc ⟨⟨v, rfl, hv⟩, bc⟩; have Bc : Below W9.heap.size W9 wc := Below.then_below (bel_drew bel_refl) bc; have hv1 := hv; obtain ⟨t1, t2, t3, t4, t5, t6, rfl, -, -⟩ := hv1)
      | (go_at_call 132; refine (QO9.out _ _ _ hv (HY.out.below Bc)).mono ?_; rintro e wd ⟨⟨v, rfl, ho⟩, bd⟩; have Bd : Below W9.heap.size W9 wd := Below.then_below Bc bd; have ho1 := ho; obtain ⟨v1, v2, v3, v4, v5, v6, rfl, -, -⟩ := ho1)
      | (go_at_call 130; refine (QP9.out _ _ Bd ho).mono ?_; rintro e we ⟨⟨v, rfl, hp⟩, be⟩; have Be : Below W9.heap.size W9 we := Below.then_below Bd be; have hp1 := hp; obtain ⟨y1', y2', y3', y4', y5', y6', rfl, -, -⟩ := hp1; have Re := kept_block R9.out Be; obtain ⟨z0, z1, z2, f0, f1, f2⟩ := box3 Re))
  go_wp2_with fail
  refine bodyPost_ret (v := .agg #[.bool false, .slice y1' y2' y3', .slice y4' y5' y6']) (by simp [results, Tryz.results90, go_sem, z0, z1, z2]) rfl ?_
  have q := set3 we (w.heap.size + 1 + 1) (.bool false) (.slice y1' y2' y3') (.slice y4' y5' y6')
  exact ⟨⟨_, rfl, rr_past hp Re q⟩, (D9.out.then_below Be).then_grown q (by rintro g ⟨⟩; omega)⟩
theorem rplain_calls (K X : Nat) (kX : ((2 * X : Nat) : Int) < M.NB ^ K) (hK : 2 * K + 1 ≤ 17592186044) (hK1 : 1 ≤ K) : ∀ lu ll hu hl, M.Bt lu ll hu hl → PlainAt K X lu ll hu hl :=
  M.smp_ind (fun lu ll hu hl b h => plain_top K X kX hK hK1 lu ll hu hl b h) (fun lu ll hu hl b h ih => plain_step K X kX hK hK1 lu ll hu hl b h ih)
end Go.Proofs.YtebnjolkolobhaaGreatDoor
