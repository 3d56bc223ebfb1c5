/-
  The document's side (arbiterref1): Simplest.
-/
import Derived.Test.YtebnjolkolobhaaGreatDoorRefBetweenG
/- ==== RefSimplest ==== -/
namespace Go.Proofs.YtebnjolkolobhaaGreatDoor
open Go.RowKit
set_option linter.unusedVariables false
theorem rcmp_q (w : World) (va vb : Value) (la lb : List UInt8) (hca : CanT la) (hcb : CanT lb) (hla : la.length ≤ 1073741824) (hlb : lb.length ≤ 1073741824) (h1 : RR w va (cneg la) (M.dec (cup la)) (M.dec (clow la))) (h2 : RR w vb (cneg lb) (M.dec (cup lb)) (M.dec (clow lb))) :
    Calls Tryz.prog 44 #[va, vb] w fun e w' => e = .returned (.int .i64 (cmpQ (qV la) (qV lb))) ∧ Below w.heap.size w w' := by
  obtain ⟨k1, l1, p1⟩ := can_bounds hca (K := la.length + lb.length + 1) (by omega)
  obtain ⟨k2, l2, p2⟩ := can_bounds hcb (K := la.length + lb.length + 1) (by omega)
  refine rcompare_calls w va vb _ _ _ _ _ _ (la.length + lb.length + 1) h1 h2 p1 p2 k1 l1 k2 l2 (by omega) (by omega) _ ?_
  rw [sgn_frac _ _ _ (Nat.mul_pos p1 p2), sub_q hca hcb, cmpQ_sub]
theorem NB_big {k : Nat} (hk : k = 1048576) : ((2 * 10 ^ k : Nat) : Int) < M.NB ^ (k + 1) ∧ 1 ≤ 10 ^ k := by
  have h0 : 0 < (10 : Nat) ^ k := Nat.pow_pos (by decide)
  refine ⟨?_, h0⟩
  rw [M.NB_pow]
  have e : (10 : Nat) ^ (9 * (k + 1)) = 10 ^ k * 10 ^ (8 * k + 9) := by rw [← Nat.pow_add]; congr 1; omega
  have h1 : 2 < (10 : Nat) ^ (8 * k + 9) := Nat.lt_of_lt_of_le (by decide : 2 < 10 ^ 1) (Nat.pow_le_pow_right (by decide) (by omega))
  have : 2 * 10 ^ k < 10 ^ (9 * (k + 1)) := by
    rw [e, Nat.mul_comm]
    exact Nat.mul_lt_mul_of_pos_left h1 h0
  exact_mod_cast this
theorem szO_ten {l : List UInt8} (ok : okB l = true) (hl : l.length ≤ 1048576) {k : Nat} (hk : k = 1048576) : (szO (bO l)).1 ≤ 10 ^ k ∧ (szO (bO l)).2 ≤ 10 ^ k := by
  by_cases h : l = []
  · subst h
    exact ⟨Nat.pow_pos (by decide), Nat.zero_le _⟩
  · have hc := okB_can ok h
    rw [bO_some h, szO_some hc]
    have hh := can_low hc
    have ht : (Lib.trimPrefix l [45]).length ≤ l.length := by unfold Lib.trimPrefix; split <;> simp
    have c1 := cut_le1 (Lib.trimPrefix l [45])
    have c2 := cut_le2 (Lib.trimPrefix l [45])
    have u1 : (cup l).length ≤ k := by unfold cup; omega
    have u2 : (clow l).length ≤ k := by
      unfold clow
      split
      · omega
      · simp; omega
    exact ⟨Nat.le_of_lt (Nat.lt_of_lt_of_le (M.dec_lt hc.1.1.2) (Nat.pow_le_pow_right (by decide) u1)), Nat.le_of_lt (Nat.lt_of_lt_of_le (M.dec_lt hh.1.1.2) (Nat.pow_le_pow_right (by decide) u2))⟩
theorem sim_le {lo hi : Option Rat} {X : Nat} (o : OrdO lo hi) (ba : (szO lo).1 ≤ X ∧ (szO lo).2 ≤ X) (bb : (szO hi).1 ≤ X ∧ (szO hi).2 ≤ X) (hX : 1 ≤ X) : (simQ lo hi).num.natAbs ≤ 2 * X ∧ (simQ lo hi).den ≤ 2 * X := by
  unfold simQ
  cases hu : up0 lo with
  | true =>
    rw [if_pos rfl]
    have bt := bt_up hu o
    have c := M.smp_cop _ _ _ _ bt
    have l := M.smp_le bt
    obtain ⟨e1, e2⟩ := mk_cop (n := (sim2 (szO lo) (szO hi)).1) (d := (sim2 (szO lo) (szO hi)).2) c.1 c.2.2
    rw [e1, e2, Int.natAbs_natCast]
    have l1 : (sim2 (szO lo) (szO hi)).1 ≤ _ := l.1
    have l2 : (sim2 (szO lo) (szO hi)).2 ≤ _ := l.2
    omega
  | false =>
    rw [if_neg (by decide)]
    cases hd : dn0 hi with
    | true =>
      rw [if_pos rfl]
      have bt := bt_dn hd o
      have c := M.smp_cop _ _ _ _ bt
      have l := M.smp_le bt
      obtain ⟨e1, e2⟩ := mk_cop (n := (sim2 (szO hi) (szO lo)).1) (d := (sim2 (szO hi) (szO lo)).2) c.1 c.2.2
      obtain ⟨f1, f2⟩ := neg_parts (mkRat ((sim2 (szO hi) (szO lo)).1 : Int) (sim2 (szO hi) (szO lo)).2)
      rw [f1, f2, e1, e2, Int.natAbs_natCast]
      have l1 : (sim2 (szO hi) (szO lo)).1 ≤ _ := l.1
      have l2 : (sim2 (szO hi) (szO lo)).2 ≤ _ := l.2
      omega
    | false =>
      rw [if_neg (by decide)]
      show 0 ≤ _ ∧ 1 ≤ _
      omega
set_option maxRecDepth 100000 in
set_option maxHeartbeats 8000000 in
theorem rsimplest_calls (w : World) (sa sb : ByteArray) (la lb : List UInt8) (ha : sa.data.toList = la) (hb : sb.data.toList = lb) (hla : la.length ≤ 1048576) (hlb : lb.length ≤ 1048576) :
    Calls Tryz.prog 14 #[.string sa, .string sb] w fun e w' => e = .returned (.tuple #[.string ⟨(simT la lb).1.toArray⟩, .int .i64 (simT la lb).2]) ∧ Below w.heap.size w w' := by
  have q1 := hide (redge_calls w sa la ha (by omega))
  have q2 := hide (fun W => redge_calls W sb lb hb (by omega))
  obtain ⟨T, hT⟩ : ∃ T, simT la lb = T := ⟨_, rfl⟩
  rw [hT]
  clear ha hb
  obtain ⟨ka, hka⟩ : ∃ k, okB la = k := ⟨_, rfl⟩
  obtain ⟨kb, hkb⟩ : ∃ k, okB lb = k := ⟨_, rfl⟩
  rw [hka] at q1
  rw [hkb] at q2
  obtain ⟨g1, hg1⟩ : ∃ g, (ka && decide (la ≠ [])) = g := ⟨_, rfl⟩
  obtain ⟨g2, hg2⟩ : ∃ g, (kb && decide (lb ≠ [])) = g := ⟨_, rfl⟩
  rw [hg1] at q1
  rw [hg2] at q2
  replace hT := hide hT
  replace hka := hide hka
  replace hkb := hide hkb
  replace hg1 := hide hg1
  replace hg2 := hide hg2
  go_enter Tryz.func14, Tryz.ntmps14
  go_upto_region 3 with (first
    | (go_at_call_of 43 (Value.string sa); refine q1.out.mono ?_; rintro e wa ⟨⟨b, rfl, hb1⟩, ba⟩; have hb1' := hb1; obtain ⟨s1, a1, a2, a3, b1, b2, b3, rfl, -, -⟩ := hb1'; replace ba := hide ba; replace hb1 := hide hb1)
    | (go_at_call_of 43 (Value.string sb); refine (q2.out _).mono ?_; rintro e wb ⟨⟨b, rfl, hb2⟩, bb⟩; have hb2' := hb2; obtain ⟨s2, c1, c2, c3, d1, d2, d3, rfl, -, -⟩ := hb2'; replace bb := hide bb; replace hb2 := hide hb2))
  have B2 := alloc_below wa (.cells #[.bool g1, .bool s1, .slice a1 a2 a3, .slice b1 b2 b3] 61)
  have X6a := heap_alloc_new wa (.cells #[.bool g1, .bool s1, .slice a1 a2 a3, .slice b1 b2 b3] 61)
  have B3 := alloc_below wb (.cells #[.bool g2, .bool s2, .slice c1 c2 c3, .slice d1 d2 d3] 61)
  have X8 := hide (heap_alloc_new wb (.cells #[.bool g2, .bool s2, .slice c1 c2 c3, .slice d1 d2 d3] 61))
  have X6 := hide (kept_block (kept_block X6a bb.out) B3)
  have H1 := hide (((hb1.out.below B2).below bb.out).below B3)
  have H2 := hide (hb2.out.below B3)
  have D3 := hide (((ba.out.then_below B2).then_below bb.out).then_below B3)
  generalize wb.alloc (.cells #[.bool g2, .bool s2, .slice c1 c2 c3, .slice d1 d2 d3] 61) = W3 at *
  generalize wa.heap.size = G6 at *
  generalize wb.heap.size = G8 at *
  clear q1 q2 B2 B3 X6a ba bb hb1 hb2
  obtain ⟨i0, i1, i2, i3⟩ := (box4 X6.out).1
  obtain ⟨j0, j1, j2, j3⟩ := (box4 X8.out).1
  cases ka with
  | false =>
    have RES : Hid (.tuple #[.string ⟨#[]⟩, .int .i64 1] = Value.tuple #[.string ⟨T.1.toArray⟩, .int .i64 T.2]) := by
      show _ = _
      rw [← hT.out]
      unfold simT
      rw [hka.out]
      rfl
    clear hT hka hkb hg1 hg2 H1 H2
    go_wp2
    refine bodyPost_ret (v := .tuple #[.string ⟨#[]⟩, .int .i64 1]) (by simp [results, Tryz.results14, go_sem]) rfl ?_
    exact ⟨by rw [RES.out], D3.out⟩
  | true =>
    cases kb with
    | false =>
      have RES : Hid (.tuple #[.string ⟨#[]⟩, .int .i64 1] = Value.tuple #[.string ⟨T.1.toArray⟩, .int .i64 T.2]) := by
        show _ = _
        rw [← hT.out]
        unfold simT
        rw [hkb.out, Bool.and_false]
        rfl
      clear hT hka hkb hg1 hg2 H1 H2
      go_wp2
      refine bodyPost_ret (v := .tuple #[.string ⟨#[]⟩, .int .i64 1]) (by simp [results, Tryz.results14, go_sem]) rfl ?_
      exact ⟨by rw [RES.out], D3.out⟩
    | true =>
      obtain ⟨k, hk⟩ : ∃ k, k = 1048576 := ⟨_, rfl⟩
      obtain ⟨kX, kX1⟩ := NB_big hk
      have hg1' : decide (la ≠ []) = g1 := by rw [← hg1.out, Bool.true_and]
      have hg2' : decide (lb ≠ []) = g2 := by rw [← hg2.out, Bool.true_and]
      have QB := hide (fun (hO : OrdO (bO la) (bO lb)) W (h : Below W3.heap.size W3 W) => rbetween_calls W _ _ la lb hka.out hkb.out (k + 1) (10 ^ k) (szO_ten hka.out hla hk) (szO_ten hkb.out hlb hk) kX (by omega) (by omega) kX1 (by rw [hg1']; exact H1.out.below h) (by rw [hg2']; exact H2.out.below h) hO)
      have QT := hide (fun (hO : OrdO (bO la) (bO lb)) W v (hv : RQ W v (simQ (bO la) (bO lb))) (kn : ((simQ (bO la) (bO lb)).num.natAbs : Int) < M.NB ^ (k + 1)) (kd : ((simQ (bO la) (bO lb)).den : Int) < M.NB ^ (k + 1)) => rtext_calls W v _ _ _ (k + 1) hv (simQ (bO la) (bO lb)).den_pos kn kd (by omega))
      cases g1 with
      | true =>
        have h1 : la ≠ [] := of_decide_eq_true hg1'
        cases g2 with
        | true =>
          have h2 : lb ≠ [] := of_decide_eq_true hg2'
          have hca := okB_can hka.out h1
          have hcb := okB_can hkb.out h2
          obtain ⟨s', m1, m2, m3, m4, m5, m6, e, hr, -⟩ := H1.out
          simp only [Value.agg.injEq, Array.mk.injEq, List.cons.injEq, Value.bool.injEq, Value.slice.injEq, true_and, and_true] at e
          obtain ⟨rfl, ⟨rfl, rfl, rfl⟩, rfl, rfl, rfl⟩ := e
          obtain ⟨s', m1, m2, m3, m4, m5, m6, e, hr2, -⟩ := H2.out
          simp only [Value.agg.injEq, Array.mk.injEq, List.cons.injEq, Value.bool.injEq, Value.slice.injEq, true_and, and_true] at e
          obtain ⟨rfl, ⟨rfl, rfl, rfl⟩, rfl, rfl, rfl⟩ := e
          have RL := hide (hr rfl)
          have RH := hide (hr2 rfl)
          have QC := hide (fun W (h : Below W3.heap.size W3 W) => rcmp_q W _ _ la lb hca hcb (by omega) (by omega) (RL.out.below h) (RH.out.below h))
          clear hr hr2
          obtain ⟨cv, hcv⟩ : ∃ cv, cmpQ (qV la) (qV lb) = cv := ⟨_, rfl⟩
          rw [hcv] at QC
          by_cases hlt : qV la < qV lb
          · have hc0 : ¬ 0 ≤ cv := by rw [← hcv]; have := cmpQ_neg.2 hlt; omega
            have hO : OrdO (bO la) (bO lb) := by rw [bO_some h1, bO_some h2]; exact hlt
            have QB2 := hide (QB.out hO)
            have sl := sim_le hO (szO_ten hka.out hla hk) (szO_ten hkb.out hlb hk) kX1
            have QT2 := hide (fun W v hv => QT.out hO W v hv (Int.lt_of_le_of_lt (by exact_mod_cast sl.1) kX) (Int.lt_of_le_of_lt (by exact_mod_cast sl.2) kX))
            obtain ⟨S, hS⟩ : ∃ S : ByteArray, S = ⟨(rText (decide ((simQ (bO la) (bO lb)).num < 0)) (simQ (bO la) (bO lb)).num.natAbs (simQ (bO la) (bO lb)).den).toArray⟩ := ⟨_, rfl⟩
            rw [← hS] at QT2
            have RES : Hid (.tuple #[.string S, .int .i64 0] = Value.tuple #[.string ⟨T.1.toArray⟩, .int .i64 T.2]) := by
              show _ = _
              rw [← hT.out, hS]
              unfold simT
              rw [hka.out, hkb.out, ordB_iff.2 hO]
              rfl
            generalize simQ (bO la) (bO lb) = q at *
            clear hT hka hkb hg1 hg2 H1 H2 QB QT sl hS kX kX1 hk hg1' hg2' hO hla hlb h1 h2 hca hcb RL RH hcv hlt
            go_wp2_with (first
              | (go_at_call 44; refine (QC.out _ (Below.refl W3.heap.size W3)).mono ?_; rintro e wc ⟨rfl, bc⟩; have BC : Below W3.heap.size W3 wc := Below.then_below (Below.refl W3.heap.size W3) bc; obtain ⟨i0, i1, i2, i3⟩ := (box4 (kept_block X6.out BC)).1; obtain ⟨j0, j1, j2, j3⟩ := (box4 (kept_block X8.out BC)).1)
              | (go_at_call 46; refine (QB2.out _ BC).mono ?_; rintro e wd ⟨⟨v, rfl, hv⟩, bd⟩; have BD1 : Below W3.heap.size W3 wd := Below.then_below BC bd; replace hv := hide hv)
              | (go_at_call 45; refine (QT2.out _ _ hv.out).mono ?_; rintro e we ⟨rfl, be⟩; have BE1 : Below W3.heap.size W3 we := Below.then_below BD1 be))
            refine bodyPost_ret (v := .tuple #[.string S, .int .i64 0]) (by simp [results, Tryz.results14, go_sem]) rfl ?_
            exact ⟨by rw [RES.out], D3.out.then_below BE1⟩
          · have hc0 : 0 ≤ cv := by
              rw [← hcv]
              have : ¬ cmpQ (qV la) (qV lb) < 0 := fun h => hlt (cmpQ_neg.1 h)
              omega
            have hO : ordB (bO la) (bO lb) = false := by
              rw [bO_some h1, bO_some h2]
              show decide _ = false
              exact decide_eq_false (fun h => hlt (cmpQ_neg.1 h))
            have RES : Hid (.tuple #[.string ⟨#[]⟩, .int .i64 3] = Value.tuple #[.string ⟨T.1.toArray⟩, .int .i64 T.2]) := by
              show _ = _
              rw [← hT.out]
              unfold simT
              rw [hka.out, hkb.out, hO]
              rfl
            clear hT hka hkb hg1 hg2 H1 H2 QB QT kX kX1 hk hg1' hg2' hO hla hlb h1 h2 hca hcb RL RH hcv hlt
            go_wp2_with (go_at_call 44; refine (QC.out _ (Below.refl W3.heap.size W3)).mono ?_; rintro e wc ⟨rfl, bc⟩; have BC : Below W3.heap.size W3 wc := Below.then_below (Below.refl W3.heap.size W3) bc; obtain ⟨i0, i1, i2, i3⟩ := (box4 (kept_block X6.out BC)).1; obtain ⟨j0, j1, j2, j3⟩ := (box4 (kept_block X8.out BC)).1)
            refine bodyPost_ret (v := .tuple #[.string ⟨#[]⟩, .int .i64 3]) (by simp [results, Tryz.results14, go_sem]) rfl ?_
            exact ⟨by rw [RES.out], D3.out.then_below BC⟩
        | false =>
          have h2 : lb = [] := Classical.byContradiction (fun h => by rw [decide_eq_true h] at hg2'; cases hg2')
          have hO : OrdO (bO la) (bO lb) := by rw [bO_some h1, h2]; trivial
          have QB2 := hide (QB.out hO)
          have sl := sim_le hO (szO_ten hka.out hla hk) (szO_ten hkb.out hlb hk) kX1
          have QT2 := hide (fun W v hv => QT.out hO W v hv (Int.lt_of_le_of_lt (by exact_mod_cast sl.1) kX) (Int.lt_of_le_of_lt (by exact_mod_cast sl.2) kX))
          obtain ⟨S, hS⟩ : ∃ S : ByteArray, S = ⟨(rText (decide ((simQ (bO la) (bO lb)).num < 0)) (simQ (bO la) (bO lb)).num.natAbs (simQ (bO la) (bO lb)).den).toArray⟩ := ⟨_, rfl⟩
          rw [← hS] at QT2
          have RES : Hid (.tuple #[.string S, .int .i64 0] = Value.tuple #[.string ⟨T.1.toArray⟩, .int .i64 T.2]) := by
            show _ = _
            rw [← hT.out, hS]
            unfold simT
            rw [hka.out, hkb.out, ordB_iff.2 hO]
            rfl
          generalize simQ (bO la) (bO lb) = q at *
          clear hT hka hkb hg1 hg2 H1 H2 QB QT sl hS kX kX1 hk hg1' hg2' hO hla hlb h1 h2
          go_wp2_with (first
            | (go_at_call 46; refine (QB2.out _ (Below.refl W3.heap.size W3)).mono ?_; rintro e wd ⟨⟨v, rfl, hv⟩, bd⟩; have BD1 : Below W3.heap.size W3 wd := Below.then_below (Below.refl W3.heap.size W3) bd; replace hv := hide hv)
            | (go_at_call 45; refine (QT2.out _ _ hv.out).mono ?_; rintro e we ⟨rfl, be⟩; have BE1 : Below W3.heap.size W3 we := Below.then_below BD1 be))
          refine bodyPost_ret (v := .tuple #[.string S, .int .i64 0]) (by simp [results, Tryz.results14, go_sem]) rfl ?_
          exact ⟨by rw [RES.out], D3.out.then_below BE1⟩
      | false =>
        have h1 : la = [] := Classical.byContradiction (fun h => by rw [decide_eq_true h] at hg1'; cases hg1')
        have hO : OrdO (bO la) (bO lb) := by rw [h1]; trivial
        have QB2 := hide (QB.out hO)
        have sl := sim_le hO (szO_ten hka.out hla hk) (szO_ten hkb.out hlb hk) kX1
        have QT2 := hide (fun W v hv => QT.out hO W v hv (Int.lt_of_le_of_lt (by exact_mod_cast sl.1) kX) (Int.lt_of_le_of_lt (by exact_mod_cast sl.2) kX))
        obtain ⟨S, hS⟩ : ∃ S : ByteArray, S = ⟨(rText (decide ((simQ (bO la) (bO lb)).num < 0)) (simQ (bO la) (bO lb)).num.natAbs (simQ (bO la) (bO lb)).den).toArray⟩ := ⟨_, rfl⟩
        rw [← hS] at QT2
        have RES : Hid (.tuple #[.string S, .int .i64 0] = Value.tuple #[.string ⟨T.1.toArray⟩, .int .i64 T.2]) := by
          show _ = _
          rw [← hT.out, hS]
          unfold simT
          rw [hka.out, hkb.out, ordB_iff.2 hO]
          rfl
        generalize simQ (bO la) (bO lb) = q at *
        clear hT hka hkb hg1 hg2 H1 H2 QB QT sl hS kX kX1 hk hg1' hg2' hO hla hlb h1
        go_wp2_with (first
          | (go_at_call 46; refine (QB2.out _ (Below.refl W3.heap.size W3)).mono ?_; rintro e wd ⟨⟨v, rfl, hv⟩, bd⟩; have BD1 : Below W3.heap.size W3 wd := Below.then_below (Below.refl W3.heap.size W3) bd; replace hv := hide hv)
          | (go_at_call 45; refine (QT2.out _ _ hv.out).mono ?_; rintro e we ⟨rfl, be⟩; have BE1 : Below W3.heap.size W3 we := Below.then_below BD1 be))
        refine bodyPost_ret (v := .tuple #[.string S, .int .i64 0]) (by simp [results, Tryz.results14, go_sem]) rfl ?_
        exact ⟨by rw [RES.out], D3.out.then_below BE1⟩
end Go.Proofs.YtebnjolkolobhaaGreatDoor
