/-
  Package num: Simplest.
-/
import Derived.Test.YtebnjolkolobhaaGreatDoorNumSimAG
import Derived.Test.YtebnjolkolobhaaGreatDoorSimSizeG
/- ==== NumSim ==== -/
namespace Go.Proofs.YtebnjolkolobhaaGreatDoor
open Go.RowKit
set_option linter.unusedVariables false
/-- simplestSize at two texts' bounds. -/
theorem ssize_text (w : World) (vn vf : Value) (la lb : List UInt8) (oka : okB la = true) (okb : okB lb = true) (hla : la.length ≤ 1048576) (hlb : lb.length ≤ 1048576) (h0 : la ≠ []) (g : Bool) (hg : decide (lb ≠ []) = g)
    (hn : BD w vn true (cneg la) (M.dec (cup la)) (cden la)) (hf : BD w vf g (cneg lb) (M.dec (cup lb)) (cden lb)) (bt : M.Bt (szO (bO la)).1 (szO (bO la)).2 (szO (bO lb)).1 (szO (bO lb)).2) (hT : Tab w) :
    Calls Tryz.prog 40 #[vn, vf] w fun e w' => (∃ r, e = .returned r ∧ DenR w' r false (sim2 (szO (bO la)) (szO (bO lb))).1 (if (sim2 (szO (bO la)) (szO (bO lb))).2 = 1 then 0 else (sim2 (szO (bO la)) (szO (bO lb))).2)) ∧ Below w.heap.size w w' := by
  obtain ⟨L, hL⟩ : ∃ L, L = 1048577 := ⟨_, rfl⟩
  obtain ⟨a1, a2⟩ := szO_small oka hla hL
  obtain ⟨b1, b2⟩ := szO_small okb hlb hL
  have hga : decide (la ≠ []) = true := decide_eq_true h0
  obtain ⟨p1, p2⟩ := szO_parts oka hga
  obtain ⟨r1, r2⟩ := szO_parts okb hg
  rw [if_pos rfl] at p1 p2
  have c := M.smp_cop _ _ _ _ bt
  refine (ssize_calls w vn vf _ _ g _ _ _ _ _ _ _ _ (sim2 (szO (bO la)) (szO (bO lb))).1 (sim2 (szO (bO la)) (szO (bO lb))).2 (L + 1) (2 ^ (64 * L) - 1) (64 * L) hn hf p1 p2 r1 r2 bt rfl a1 a2 b1 b2 small_two (by omega) small_one (by omega) hT).mono ?_
  rintro e w' ⟨⟨r, h1, h2⟩, h3⟩
  exact ⟨⟨r, h1, low_den h2 c.2.1⟩, h3⟩
/-- Its text. -/
theorem text_sim (w : World) (v : Value) (s : Bool) (n d L : Nat) (hL : L = 1048577) (h : DenR w v s n (if d = 1 then 0 else d)) (hg : Nat.gcd n d = 1) (hn : 0 < n) (hd : 0 < d) (kn : n ≤ 2 * (2 ^ (64 * L) - 1)) (kd : d ≤ 2 * (2 ^ (64 * L) - 1)) (hP : Pows w) :
    Calls Tryz.prog 41 #[v] w fun e w' => e = .returned (.string ⟨(qT (mkRat (M.sg s n) d)).toArray⟩) ∧ Below w.heap.size w w' := by
  rw [← text_q s hg hn hd]
  refine ratText_calls w v s n _ (L + 1) h (BB_lt kn small_two) (BB_lt ?_ small_two) (by omega) hP
  split
  · exact Nat.zero_le _
  · exact kd
set_option maxRecDepth 100000 in
set_option maxHeartbeats 16000000 in
theorem numSim_yes (w : World) (sa sb : ByteArray) (la lb : List UInt8) (ha : sa.data.toList = la) (hb : sb.data.toList = lb) (hla : la.length ≤ 1048576) (hlb : lb.length ≤ 1048576) (env : Env w) (oka : okB la = true) (okb : okB lb = true) (T : List UInt8 × Int) (hT : (if ordB (bO la) (bO lb) then (qT (simQ (bO la) (bO lb)), (0 : Int)) else ([], 3)) = T) :
    Calls Tryz.prog 13 #[.string sa, .string sb] w fun e w' => e = .returned (.tuple #[.string ⟨T.1.toArray⟩, .int .i64 T.2]) ∧ Below w.heap.size w w' := by
  obtain ⟨L, hL⟩ : ∃ L, L = 1048577 := ⟨_, rfl⟩
  obtain ⟨g1, hg1⟩ : ∃ g, decide (la ≠ []) = g := ⟨_, rfl⟩
  obtain ⟨g2, hg2⟩ : ∃ g, decide (lb ≠ []) = g := ⟨_, rfl⟩
  have EE := hide env
  have q1 := hide (pb_ok w sa la ha (by omega) EE.out.1.choose EE.out.1.choose_spec EE.out.2.1 oka g1 hg1)
  have q2 := hide (fun W (h : Below w.heap.size w W) => pb_ok W sb lb hb (by omega) (EE.out.below h : Env W).1.choose (EE.out.below h : Env W).1.choose_spec (EE.out.below h : Env W).2.1 okb g2 hg2)
  replace hT := hide hT
  replace oka := hide oka
  replace okb := hide okb
  replace hL := hide hL
  replace hg1 := hide hg1
  replace hg2 := hide hg2
  replace hla := hide hla
  replace hlb := hide hlb
  clear ha hb env
  go_enter Tryz.func13, Tryz.ntmps13
  go_upto_region 3 with (first
    | (go_at_call_of 38 (Value.string sa); refine q1.out.mono ?_; rintro e wa ⟨⟨b, rfl, hb1⟩, ba⟩; have hb1' := hb1; obtain ⟨s1, x1, x2, x3, x4, y1, y2, y3, y4, rfl, hd1⟩ := hb1'; replace ba := hide ba; replace hb1 := hide hb1; replace hd1 := hide hd1)
    | (go_at_call_of 38 (Value.string sb); refine (q2.out _ (ba.out.then_below (alloc_below _ _))).mono ?_; rintro e wb ⟨⟨b, rfl, hb2⟩, bb⟩; have hb2' := hb2; obtain ⟨s2, p1, p2, p3, p4, r1, r2, r3, r4, rfl, hd2⟩ := hb2'; replace bb := hide bb; replace hb2 := hide hb2; replace hd2 := hide hd2))
  have B2 := alloc_below wa (.cells #[.bool g1, .bool s1, .int .u64 x1, .slice x2 x3 x4, .int .u64 y1, .slice y2 y3 y4] 51)
  have X6a := heap_alloc_new wa (.cells #[.bool g1, .bool s1, .int .u64 x1, .slice x2 x3 x4, .int .u64 y1, .slice y2 y3 y4] 51)
  have B3 := alloc_below wb (.cells #[.bool g2, .bool s2, .int .u64 p1, .slice p2 p3 p4, .int .u64 r1, .slice r2 r3 r4] 51)
  have X8 := hide (heap_alloc_new wb (.cells #[.bool g2, .bool s2, .int .u64 p1, .slice p2 p3 p4, .int .u64 r1, .slice r2 r3 r4] 51))
  have X6 := hide (kept_block (kept_block X6a bb.out) B3)
  have HB1 := hide (((hb1.out.below B2).below bb.out).below B3)
  have HB2 := hide (hb2.out.below B3)
  have HD1 := hide (fun e => (((hd1.out e).below B2).below bb.out).below B3)
  have HD2 := hide (fun e => (hd2.out e).below B3)
  have D3 := hide (((ba.out.then_below B2).then_below bb.out).then_below B3)
  generalize wb.alloc (.cells #[.bool g2, .bool s2, .int .u64 p1, .slice p2 p3 p4, .int .u64 r1, .slice r2 r3 r4] 51) = W3 at *
  generalize wa.heap.size = G6 at *
  generalize wb.heap.size = G8 at *
  have E3 := hide (EE.out.below D3.out)
  clear q1 q2 B2 B3 X6a ba bb hb1 hb2 hd1 hd2 EE
  have SA := hide (szO_small oka.out hla.out hL.out)
  have SB := hide (szO_small okb.out hlb.out hL.out)
  cases g1 with
  | true =>
    have h1 : la ≠ [] := of_decide_eq_true hg1.out
    have hca := okB_can oka.out h1
    have eA := bO_some h1
    have DA := hide (HD1.out rfl)
    have QS1 := hide (fun W (h : Below W3.heap.size W3 W) => psign_calls W _ (cneg la) (M.dec (cup la)) (cden la) (DA.out.below h))
    cases g2 with
    | true =>
      have h2 : lb ≠ [] := of_decide_eq_true hg2.out
      have hcb := okB_can okb.out h2
      have eB := bO_some h2
      have DB := hide (HD2.out rfl)
      have QS2 := hide (fun W (h : Below W3.heap.size W3 W) => psign_calls W _ (cneg lb) (M.dec (cup lb)) (cden lb) (DB.out.below h))
      obtain ⟨k1, l1⟩ := can_BB hca (K := L) (by have := hL.out; have := hla.out; omega)
      obtain ⟨k2, l2⟩ := can_BB hcb (K := L) (by have := hL.out; have := hlb.out; omega)
      have QC := hide (fun W (h : Below W3.heap.size W3 W) => pcmp_calls W _ _ (cneg la) (cneg lb) _ (cden la) _ (cden lb) L (DA.out.below h) (DB.out.below h) k1 (by rw [lowN_can hca]; exact l1) k2 (by rw [lowN_can hcb]; exact l2) (by have := hL.out; omega))
      rw [lowN_can hca, lowN_can hcb, cmp_qV hca hcb] at QC
      obtain ⟨cv, hcv⟩ : ∃ cv, cmpQ (qV la) (qV lb) = cv := ⟨_, rfl⟩
      rw [hcv] at QC
      by_cases hlt : qV la < qV lb
      · have hc0 : ¬ 0 ≤ cv := by rw [← hcv]; have := cmpQ_neg.2 hlt; omega
        have hO : OrdO (bO la) (bO lb) := by rw [eA, eB]; exact hlt
        rw [ordB_iff.2 hO, if_pos rfl] at hT
        replace hcv := hide hcv
        cases hs : cneg la with
        | false =>
          have u1 : up0 (bO la) = true := by rw [eA, up0_can hca, hs]; rfl
          rw [simQ_up u1] at hT
          have bt := bt_up u1 hO
          have c := M.smp_cop _ _ _ _ bt
          have l := M.smp_le bt
          have QZ := hide (fun W (h : Below W3.heap.size W3 W) => ssize_text W _ _ la lb oka.out okb.out hla.out hlb.out h1 true hg2.out (HB1.out.below h) (HB2.out.below h) bt (E3.out.below h : Env W).2.1)
          have QT := hide (fun W v (h : Below W3.heap.size W3 W) (hv : DenR W v false (sim2 (szO (bO la)) (szO (bO lb))).1 (if (sim2 (szO (bO la)) (szO (bO lb))).2 = 1 then 0 else (sim2 (szO (bO la)) (szO (bO lb))).2)) => text_sim W v false (sim2 (szO (bO la)) (szO (bO lb))).1 (sim2 (szO (bO la)) (szO (bO lb))).2 L hL.out hv c.1 c.2.1 c.2.2 (Nat.le_trans l.1 (by have := SA.out; have := SB.out; omega)) (Nat.le_trans l.2 (by have := SA.out; have := SB.out; omega)) (E3.out.below h : Env W).2.2)
          have RES := hide hT.out.symm
          obtain ⟨S, hS⟩ : ∃ S : ByteArray, S = ⟨(qT (mkRat (M.sg false (sim2 (szO (bO la)) (szO (bO lb))).1) (sim2 (szO (bO la)) (szO (bO lb))).2)).toArray⟩ := ⟨_, rfl⟩
          rw [← hS] at QT
          generalize (sim2 (szO (bO la)) (szO (bO lb))).1 = N at *
          generalize (sim2 (szO (bO la)) (szO (bO lb))).2 = E at *
          generalize (if E = 1 then 0 else E) = E' at *
          obtain ⟨sv, hsv⟩ : ∃ sv, (if cneg la then (-1 : Int) else if M.dec (cup la) = 0 then 0 else 1) = sv := ⟨_, rfl⟩
          rw [hsv] at QS1
          have hv : 0 ≤ sv := by rw [← hsv, hs, if_neg (by decide)]; split <;> decide
          have RES2 : Hid (.tuple #[.string S, .int .i64 0] = Value.tuple #[.string ⟨T.1.toArray⟩, .int .i64 T.2]) := by
            show _ = _
            rw [hS, RES.out]
            rfl
          clear hS RES hT bt c l u1 eA hO hca h1 hsv hs eB hcb h2 hlt k1 k2 l1 l2 QS2 hcv
          obtain ⟨⟨i0, i1, i2, i3, i4, i5⟩, -⟩ := box6 X6.out
          obtain ⟨⟨j0, j1, j2, j3, j4, j5⟩, -⟩ := box6 X8.out
          go_wp2_with (first
            | (go_at_call 39; refine (QC.out _ (Below.refl W3.heap.size W3)).mono ?_; rintro e wc ⟨rfl, bc⟩; have BC : Below W3.heap.size W3 wc := Below.then_below (Below.refl W3.heap.size W3) bc; obtain ⟨⟨i0, i1, i2, i3, i4, i5⟩, -⟩ := box6 (kept_block X6.out BC); obtain ⟨⟨j0, j1, j2, j3, j4, j5⟩, -⟩ := box6 (kept_block X8.out BC))
            | (go_at_call_of 34 (Value.agg #[.bool s1, .int .u64 x1, .slice x2 x3 x4, .int .u64 y1, .slice y2 y3 y4]); refine (QS1.out _ BC).mono ?_; rintro e wd ⟨rfl, bd⟩; have BD1 : Below W3.heap.size W3 wd := Below.then_below BC bd; obtain ⟨⟨i0, i1, i2, i3, i4, i5⟩, -⟩ := box6 (kept_block X6.out BD1); obtain ⟨⟨j0, j1, j2, j3, j4, j5⟩, -⟩ := box6 (kept_block X8.out BD1))
            | (go_at_call 40; refine (QZ.out _ BD1).mono ?_; rintro e wf ⟨⟨r, rfl, hr⟩, bf⟩; have BF : Below W3.heap.size W3 wf := Below.then_below BD1 bf; replace hr := hide hr)
            | (go_at_call 41; refine (QT.out _ _ BF hr.out).mono ?_; rintro e wh ⟨rfl, bh⟩; have BH : Below W3.heap.size W3 wh := Below.then_below BF bh))
          refine bodyPost_ret (v := .tuple #[.string S, .int .i64 0]) (by simp [results, Tryz.results13, go_sem]) rfl ?_
          exact ⟨by rw [RES2.out], D3.out.then_below BH⟩
        | true =>
          have u0 : up0 (bO la) = false := by rw [eA, up0_can hca, hs]; rfl
          rw [hs, if_pos rfl] at QS1
          cases dn : dn0 (bO lb) with
          | true =>
            obtain ⟨sv2, hsv2⟩ : ∃ sv, (if cneg lb then (-1 : Int) else if M.dec (cup lb) = 0 then 0 else 1) = sv := ⟨_, rfl⟩
            rw [hsv2] at QS2
            have hv2 : sv2 ≤ 0 := by
              rw [eB, dn0_can hcb, Bool.or_eq_true, decide_eq_true_iff] at dn
              rw [← hsv2]
              rcases dn with d | d
              · rw [if_pos d]; decide
              · rw [if_pos d]
                split <;> decide
            rw [simQ_dn u0 dn] at hT
            have bt := bt_dn dn hO
            have c := M.smp_cop _ _ _ _ bt
            have l := M.smp_le bt
            have QZ := hide (fun W (h : Below W3.heap.size W3 W) => ssize_text W _ _ lb la okb.out oka.out hlb.out hla.out h2 true hg1.out (HB2.out.below h) (HB1.out.below h) bt (E3.out.below h : Env W).2.1)
            have QN := hide (fun W v (hv : DenR W v false (sim2 (szO (bO lb)) (szO (bO la))).1 (if (sim2 (szO (bO lb)) (szO (bO la))).2 = 1 then 0 else (sim2 (szO (bO lb)) (szO (bO la))).2)) => neg_calls W v false _ _ hv)
            have nz : ¬ (sim2 (szO (bO lb)) (szO (bO la))).1 = 0 := Nat.ne_of_gt c.2.1
            rw [decide_eq_false nz] at QN
            have QT := hide (fun W v (h : Below W3.heap.size W3 W) (hv : DenR W v true (sim2 (szO (bO lb)) (szO (bO la))).1 (if (sim2 (szO (bO lb)) (szO (bO la))).2 = 1 then 0 else (sim2 (szO (bO lb)) (szO (bO la))).2)) => text_sim W v true (sim2 (szO (bO lb)) (szO (bO la))).1 (sim2 (szO (bO lb)) (szO (bO la))).2 L hL.out hv c.1 c.2.1 c.2.2 (Nat.le_trans l.1 (by have := SA.out; have := SB.out; omega)) (Nat.le_trans l.2 (by have := SA.out; have := SB.out; omega)) (E3.out.below h : Env W).2.2)
            have RES := hide hT.out.symm
            obtain ⟨S, hS⟩ : ∃ S : ByteArray, S = ⟨(qT (mkRat (M.sg true (sim2 (szO (bO lb)) (szO (bO la))).1) (sim2 (szO (bO lb)) (szO (bO la))).2)).toArray⟩ := ⟨_, rfl⟩
            rw [← hS] at QT
            generalize (sim2 (szO (bO lb)) (szO (bO la))).1 = N at *
            generalize (sim2 (szO (bO lb)) (szO (bO la))).2 = E at *
            generalize (if E = 1 then 0 else E) = E' at *
            change Hid (∀ W v, DenR W v false N E' → Calls Tryz.prog 42 #[v] W fun e w' => (∃ r, e = .returned r ∧ DenR w' r true N E') ∧ Below W.heap.size W w') at QN
            have RES2 : Hid (.tuple #[.string S, .int .i64 0] = Value.tuple #[.string ⟨T.1.toArray⟩, .int .i64 T.2]) := by
              show _ = _
              rw [hS, RES.out]
            clear hS RES hT bt c l u0 dn hO nz hsv2 eA eB hca hcb hs h1 h2 hlt k1 k2 l1 l2 hcv
            obtain ⟨⟨i0, i1, i2, i3, i4, i5⟩, -⟩ := box6 X6.out
            obtain ⟨⟨j0, j1, j2, j3, j4, j5⟩, -⟩ := box6 X8.out
            go_wp2_with (first
              | (go_at_call 39; refine (QC.out _ (Below.refl W3.heap.size W3)).mono ?_; rintro e wc ⟨rfl, bc⟩; have BC : Below W3.heap.size W3 wc := Below.then_below (Below.refl W3.heap.size W3) bc; obtain ⟨⟨i0, i1, i2, i3, i4, i5⟩, -⟩ := box6 (kept_block X6.out BC); obtain ⟨⟨j0, j1, j2, j3, j4, j5⟩, -⟩ := box6 (kept_block X8.out BC))
              | (go_at_call_of 34 (Value.agg #[.bool s1, .int .u64 x1, .slice x2 x3 x4, .int .u64 y1, .slice y2 y3 y4]); refine (QS1.out _ BC).mono ?_; rintro e wd ⟨rfl, bd⟩; have BD1 : Below W3.heap.size W3 wd := Below.then_below BC bd; obtain ⟨⟨i0, i1, i2, i3, i4, i5⟩, -⟩ := box6 (kept_block X6.out BD1); obtain ⟨⟨j0, j1, j2, j3, j4, j5⟩, -⟩ := box6 (kept_block X8.out BD1))
              | (go_at_call_of 34 (Value.agg #[.bool s2, .int .u64 p1, .slice p2 p3 p4, .int .u64 r1, .slice r2 r3 r4]); refine (QS2.out _ BD1).mono ?_; rintro e we ⟨rfl, be⟩; have BE1 : Below W3.heap.size W3 we := Below.then_below BD1 be; obtain ⟨⟨i0, i1, i2, i3, i4, i5⟩, -⟩ := box6 (kept_block X6.out BE1); obtain ⟨⟨j0, j1, j2, j3, j4, j5⟩, -⟩ := box6 (kept_block X8.out BE1))
              | (go_at_call 40; refine (QZ.out _ BE1).mono ?_; rintro e wf ⟨⟨r, rfl, hr⟩, bf⟩; have BF : Below W3.heap.size W3 wf := Below.then_below BE1 bf; replace hr := hide hr)
              | (go_at_call 42; refine (QN.out _ _ hr.out).mono ?_; rintro e wg ⟨⟨q, rfl, hq⟩, bg⟩; have BG : Below W3.heap.size W3 wg := Below.then_below BF bg; replace hq := hide hq)
              | (go_at_call 41; refine (QT.out _ _ BG hq.out).mono ?_; rintro e wh ⟨rfl, bh⟩; have BH : Below W3.heap.size W3 wh := Below.then_below BG bh))
            refine bodyPost_ret (v := .tuple #[.string S, .int .i64 0]) (by simp [results, Tryz.results13, go_sem]) rfl ?_
            exact ⟨by rw [RES2.out], D3.out.then_below BH⟩
          | false =>
            obtain ⟨sv2, hsv2⟩ : ∃ sv, (if cneg lb then (-1 : Int) else if M.dec (cup lb) = 0 then 0 else 1) = sv := ⟨_, rfl⟩
            rw [hsv2] at QS2
            have hv2 : ¬ sv2 ≤ 0 := by
              rw [eB, dn0_can hcb, Bool.or_eq_false_iff, decide_eq_false_iff_not] at dn
              rw [← hsv2, dn.1, if_neg (by decide), if_neg dn.2]
              decide
            rw [simQ_zero u0 dn, qT_zero] at hT
            have RES2 : Hid (.tuple #[.string ⟨#[48]⟩, .int .i64 0] = Value.tuple #[.string ⟨T.1.toArray⟩, .int .i64 T.2]) := by
              show _ = _
              rw [← hT.out]
            clear hT u0 dn hsv2 eA eB hca hcb hs h1 h2 hlt k1 k2 l1 l2 hO hcv
            obtain ⟨⟨i0, i1, i2, i3, i4, i5⟩, -⟩ := box6 X6.out
            obtain ⟨⟨j0, j1, j2, j3, j4, j5⟩, -⟩ := box6 X8.out
            go_wp2_with (first
              | (go_at_call 39; refine (QC.out _ (Below.refl W3.heap.size W3)).mono ?_; rintro e wc ⟨rfl, bc⟩; have BC : Below W3.heap.size W3 wc := Below.then_below (Below.refl W3.heap.size W3) bc; obtain ⟨⟨i0, i1, i2, i3, i4, i5⟩, -⟩ := box6 (kept_block X6.out BC); obtain ⟨⟨j0, j1, j2, j3, j4, j5⟩, -⟩ := box6 (kept_block X8.out BC))
              | (go_at_call_of 34 (Value.agg #[.bool s1, .int .u64 x1, .slice x2 x3 x4, .int .u64 y1, .slice y2 y3 y4]); refine (QS1.out _ BC).mono ?_; rintro e wd ⟨rfl, bd⟩; have BD1 : Below W3.heap.size W3 wd := Below.then_below BC bd; obtain ⟨⟨i0, i1, i2, i3, i4, i5⟩, -⟩ := box6 (kept_block X6.out BD1); obtain ⟨⟨j0, j1, j2, j3, j4, j5⟩, -⟩ := box6 (kept_block X8.out BD1))
              | (go_at_call_of 34 (Value.agg #[.bool s2, .int .u64 p1, .slice p2 p3 p4, .int .u64 r1, .slice r2 r3 r4]); refine (QS2.out _ BD1).mono ?_; rintro e we ⟨rfl, be⟩; have BE1 : Below W3.heap.size W3 we := Below.then_below BD1 be; obtain ⟨⟨i0, i1, i2, i3, i4, i5⟩, -⟩ := box6 (kept_block X6.out BE1); obtain ⟨⟨j0, j1, j2, j3, j4, j5⟩, -⟩ := box6 (kept_block X8.out BE1)))
            refine bodyPost_ret (v := .tuple #[.string ⟨#[48]⟩, .int .i64 0]) (by simp [results, Tryz.results13, go_sem]) rfl ?_
            exact ⟨by rw [RES2.out], D3.out.then_below BE1⟩
      · have hc0 : 0 ≤ cv := by
          rw [← hcv]
          have : ¬ cmpQ (qV la) (qV lb) < 0 := fun h => hlt (cmpQ_neg.1 h)
          omega
        have hO : ordB (bO la) (bO lb) = false := by
          rw [eA, eB]
          show decide _ = false
          exact decide_eq_false (fun h => hlt (cmpQ_neg.1 h))
        rw [hO, if_neg (by decide)] at hT
        have RES := hT.out.symm
        replace RES := hide RES
        clear hca hcb eA eB hcv QS1 QS2 hlt hO k1 k2 l1 l2 h1 h2
        obtain ⟨⟨i0, i1, i2, i3, i4, i5⟩, -⟩ := box6 X6.out
        obtain ⟨⟨j0, j1, j2, j3, j4, j5⟩, -⟩ := box6 X8.out
        go_wp2_with (first
          | (go_at_call 39; refine (QC.out _ (Below.refl W3.heap.size W3)).mono ?_; rintro e wc ⟨rfl, bc⟩; have BC : Below W3.heap.size W3 wc := Below.then_below (Below.refl W3.heap.size W3) bc; obtain ⟨⟨i0, i1, i2, i3, i4, i5⟩, -⟩ := box6 (kept_block X6.out BC); obtain ⟨⟨j0, j1, j2, j3, j4, j5⟩, -⟩ := box6 (kept_block X8.out BC)))
        refine bodyPost_ret (v := .tuple #[.string ⟨#[]⟩, .int .i64 3]) (by simp [results, Tryz.results13, go_sem]) rfl ?_
        exact ⟨by rw [RES.out], D3.out.then_below BC⟩
    | false =>
      have h2 : lb = [] := Classical.byContradiction (fun h => by have := hg2.out; rw [decide_eq_true h] at this; cases this)
      have eB : bO lb = none := by rw [h2]; rfl
      have hO : OrdO (bO la) (bO lb) := by rw [eA, eB]; trivial
      rw [ordB_iff.2 hO, if_pos rfl] at hT
      cases hs : cneg la with
      | false =>
        have u1 : up0 (bO la) = true := by rw [eA, up0_can hca, hs]; rfl
        rw [simQ_up u1] at hT
        have bt := bt_up u1 hO
        have c := M.smp_cop _ _ _ _ bt
        have l := M.smp_le bt
        have QZ := hide (fun W (h : Below W3.heap.size W3 W) => ssize_text W _ _ la lb oka.out okb.out hla.out hlb.out h1 false hg2.out (HB1.out.below h) (HB2.out.below h) bt (E3.out.below h : Env W).2.1)
        have QT := hide (fun W v (h : Below W3.heap.size W3 W) (hv : DenR W v false (sim2 (szO (bO la)) (szO (bO lb))).1 (if (sim2 (szO (bO la)) (szO (bO lb))).2 = 1 then 0 else (sim2 (szO (bO la)) (szO (bO lb))).2)) => text_sim W v false (sim2 (szO (bO la)) (szO (bO lb))).1 (sim2 (szO (bO la)) (szO (bO lb))).2 L hL.out hv c.1 c.2.1 c.2.2 (Nat.le_trans l.1 (by have := SA.out; have := SB.out; omega)) (Nat.le_trans l.2 (by have := SA.out; have := SB.out; omega)) (E3.out.below h : Env W).2.2)
        have RES := hide hT.out.symm
        obtain ⟨S, hS⟩ : ∃ S : ByteArray, S = ⟨(qT (mkRat (M.sg false (sim2 (szO (bO la)) (szO (bO lb))).1) (sim2 (szO (bO la)) (szO (bO lb))).2)).toArray⟩ := ⟨_, rfl⟩
        rw [← hS] at QT
        generalize (sim2 (szO (bO la)) (szO (bO lb))).1 = N at *
        generalize (sim2 (szO (bO la)) (szO (bO lb))).2 = E at *
        generalize (if E = 1 then 0 else E) = E' at *
        obtain ⟨sv, hsv⟩ : ∃ sv, (if cneg la then (-1 : Int) else if M.dec (cup la) = 0 then 0 else 1) = sv := ⟨_, rfl⟩
        rw [hsv] at QS1
        have hv : 0 ≤ sv := by rw [← hsv, hs, if_neg (by decide)]; split <;> decide
        have RES2 : Hid (.tuple #[.string S, .int .i64 0] = Value.tuple #[.string ⟨T.1.toArray⟩, .int .i64 T.2]) := by
          show _ = _
          rw [hS, RES.out]
          rfl
        clear hS RES hT bt c l u1 eA hO hca h1 hsv hs eB h2
        obtain ⟨⟨i0, i1, i2, i3, i4, i5⟩, -⟩ := box6 X6.out
        obtain ⟨⟨j0, j1, j2, j3, j4, j5⟩, -⟩ := box6 X8.out
        go_wp2_with (first
          | (go_at_call_of 34 (Value.agg #[.bool s1, .int .u64 x1, .slice x2 x3 x4, .int .u64 y1, .slice y2 y3 y4]); refine (QS1.out _ (Below.refl W3.heap.size W3)).mono ?_; rintro e wd ⟨rfl, bd⟩; have BD1 : Below W3.heap.size W3 wd := Below.then_below (Below.refl W3.heap.size W3) bd; obtain ⟨⟨i0, i1, i2, i3, i4, i5⟩, -⟩ := box6 (kept_block X6.out BD1); obtain ⟨⟨j0, j1, j2, j3, j4, j5⟩, -⟩ := box6 (kept_block X8.out BD1))
          | (go_at_call 40; refine (QZ.out _ BD1).mono ?_; rintro e wf ⟨⟨r, rfl, hr⟩, bf⟩; have BF : Below W3.heap.size W3 wf := Below.then_below BD1 bf; replace hr := hide hr)
          | (go_at_call 41; refine (QT.out _ _ BF hr.out).mono ?_; rintro e wh ⟨rfl, bh⟩; have BH : Below W3.heap.size W3 wh := Below.then_below BF bh))
        refine bodyPost_ret (v := .tuple #[.string S, .int .i64 0]) (by simp [results, Tryz.results13, go_sem]) rfl ?_
        exact ⟨by rw [RES2.out], D3.out.then_below BH⟩
      | true =>
        have u0 : up0 (bO la) = false := by rw [eA, up0_can hca, hs]; rfl
        rw [hs, if_pos rfl] at QS1
        have dn : dn0 (bO lb) = false := by rw [eB]; rfl
        rw [simQ_zero u0 dn, qT_zero] at hT
        have RES2 : Hid (.tuple #[.string ⟨#[48]⟩, .int .i64 0] = Value.tuple #[.string ⟨T.1.toArray⟩, .int .i64 T.2]) := by
          show _ = _
          rw [← hT.out]
        clear hT u0 dn eA eB hca hs h1 h2 hO
        obtain ⟨⟨i0, i1, i2, i3, i4, i5⟩, -⟩ := box6 X6.out
        obtain ⟨⟨j0, j1, j2, j3, j4, j5⟩, -⟩ := box6 X8.out
        go_wp2_with (first
          | (go_at_call_of 34 (Value.agg #[.bool s1, .int .u64 x1, .slice x2 x3 x4, .int .u64 y1, .slice y2 y3 y4]); refine (QS1.out _ (Below.refl W3.heap.size W3)).mono ?_; rintro e wd ⟨rfl, bd⟩; have BD1 : Below W3.heap.size W3 wd := Below.then_below (Below.refl W3.heap.size W3) bd; obtain ⟨⟨i0, i1, i2, i3, i4, i5⟩, -⟩ := box6 (kept_block X6.out BD1); obtain ⟨⟨j0, j1, j2, j3, j4, j5⟩, -⟩ := box6 (kept_block X8.out BD1)))
        refine bodyPost_ret (v := .tuple #[.string ⟨#[48]⟩, .int .i64 0]) (by simp [results, Tryz.results13, go_sem]) rfl ?_
        exact ⟨by rw [RES2.out], D3.out.then_below BD1⟩
  | false =>
    have h1 : la = [] := Classical.byContradiction (fun h => by have := hg1.out; rw [decide_eq_true h] at this; cases this)
    have eA : bO la = none := by rw [h1]; rfl
    have u0 : up0 (bO la) = false := by rw [eA]; rfl
    have hO : OrdO (bO la) (bO lb) := by rw [eA]; trivial
    rw [ordB_iff.2 hO, if_pos rfl] at hT
    cases g2 with
    | true =>
      have h2 : lb ≠ [] := of_decide_eq_true hg2.out
      have hcb := okB_can okb.out h2
      have eB := bO_some h2
      have DB := hide (HD2.out rfl)
      have QS2 := hide (fun W (h : Below W3.heap.size W3 W) => psign_calls W _ (cneg lb) (M.dec (cup lb)) (cden lb) (DB.out.below h))
      cases dn : dn0 (bO lb) with
      | true =>
        obtain ⟨sv2, hsv2⟩ : ∃ sv, (if cneg lb then (-1 : Int) else if M.dec (cup lb) = 0 then 0 else 1) = sv := ⟨_, rfl⟩
        rw [hsv2] at QS2
        have hv2 : sv2 ≤ 0 := by
          rw [eB, dn0_can hcb, Bool.or_eq_true, decide_eq_true_iff] at dn
          rw [← hsv2]
          rcases dn with d | d
          · rw [if_pos d]; decide
          · rw [if_pos d]
            split <;> decide
        rw [simQ_dn u0 dn] at hT
        have bt := bt_dn dn hO
        have c := M.smp_cop _ _ _ _ bt
        have l := M.smp_le bt
        have QZ := hide (fun W (h : Below W3.heap.size W3 W) => ssize_text W _ _ lb la okb.out oka.out hlb.out hla.out h2 false hg1.out (HB2.out.below h) (HB1.out.below h) bt (E3.out.below h : Env W).2.1)
        have QN := hide (fun W v (hv : DenR W v false (sim2 (szO (bO lb)) (szO (bO la))).1 (if (sim2 (szO (bO lb)) (szO (bO la))).2 = 1 then 0 else (sim2 (szO (bO lb)) (szO (bO la))).2)) => neg_calls W v false _ _ hv)
        have nz : ¬ (sim2 (szO (bO lb)) (szO (bO la))).1 = 0 := Nat.ne_of_gt c.2.1
        rw [decide_eq_false nz] at QN
        have QT := hide (fun W v (h : Below W3.heap.size W3 W) (hv : DenR W v true (sim2 (szO (bO lb)) (szO (bO la))).1 (if (sim2 (szO (bO lb)) (szO (bO la))).2 = 1 then 0 else (sim2 (szO (bO lb)) (szO (bO la))).2)) => text_sim W v true (sim2 (szO (bO lb)) (szO (bO la))).1 (sim2 (szO (bO lb)) (szO (bO la))).2 L hL.out hv c.1 c.2.1 c.2.2 (Nat.le_trans l.1 (by have := SA.out; have := SB.out; omega)) (Nat.le_trans l.2 (by have := SA.out; have := SB.out; omega)) (E3.out.below h : Env W).2.2)
        have RES := hide hT.out.symm
        obtain ⟨S, hS⟩ : ∃ S : ByteArray, S = ⟨(qT (mkRat (M.sg true (sim2 (szO (bO lb)) (szO (bO la))).1) (sim2 (szO (bO lb)) (szO (bO la))).2)).toArray⟩ := ⟨_, rfl⟩
        rw [← hS] at QT
        generalize (sim2 (szO (bO lb)) (szO (bO la))).1 = N at *
        generalize (sim2 (szO (bO lb)) (szO (bO la))).2 = E at *
        generalize (if E = 1 then 0 else E) = E' at *
        change Hid (∀ W v, DenR W v false N E' → Calls Tryz.prog 42 #[v] W fun e w' => (∃ r, e = .returned r ∧ DenR w' r true N E') ∧ Below W.heap.size W w') at QN
        have RES2 : Hid (.tuple #[.string S, .int .i64 0] = Value.tuple #[.string ⟨T.1.toArray⟩, .int .i64 T.2]) := by
          show _ = _
          rw [hS, RES.out]
        clear hS RES hT bt c l u0 dn hO nz hsv2 eA eB hcb h1 h2
        obtain ⟨⟨i0, i1, i2, i3, i4, i5⟩, -⟩ := box6 X6.out
        obtain ⟨⟨j0, j1, j2, j3, j4, j5⟩, -⟩ := box6 X8.out
        go_wp2_with (first
          | (go_at_call_of 34 (Value.agg #[.bool s2, .int .u64 p1, .slice p2 p3 p4, .int .u64 r1, .slice r2 r3 r4]); refine (QS2.out _ (Below.refl W3.heap.size W3)).mono ?_; rintro e we ⟨rfl, be⟩; have BE1 : Below W3.heap.size W3 we := Below.then_below (Below.refl W3.heap.size W3) be; obtain ⟨⟨i0, i1, i2, i3, i4, i5⟩, -⟩ := box6 (kept_block X6.out BE1); obtain ⟨⟨j0, j1, j2, j3, j4, j5⟩, -⟩ := box6 (kept_block X8.out BE1))
          | (go_at_call 40; refine (QZ.out _ BE1).mono ?_; rintro e wf ⟨⟨r, rfl, hr⟩, bf⟩; have BF : Below W3.heap.size W3 wf := Below.then_below BE1 bf; replace hr := hide hr)
          | (go_at_call 42; refine (QN.out _ _ hr.out).mono ?_; rintro e wg ⟨⟨q, rfl, hq⟩, bg⟩; have BG : Below W3.heap.size W3 wg := Below.then_below BF bg; replace hq := hide hq)
          | (go_at_call 41; refine (QT.out _ _ BG hq.out).mono ?_; rintro e wh ⟨rfl, bh⟩; have BH : Below W3.heap.size W3 wh := Below.then_below BG bh))
        refine bodyPost_ret (v := .tuple #[.string S, .int .i64 0]) (by simp [results, Tryz.results13, go_sem]) rfl ?_
        exact ⟨by rw [RES2.out], D3.out.then_below BH⟩
      | false =>
        obtain ⟨sv2, hsv2⟩ : ∃ sv, (if cneg lb then (-1 : Int) else if M.dec (cup lb) = 0 then 0 else 1) = sv := ⟨_, rfl⟩
        rw [hsv2] at QS2
        have hv2 : ¬ sv2 ≤ 0 := by
          rw [eB, dn0_can hcb, Bool.or_eq_false_iff, decide_eq_false_iff_not] at dn
          rw [← hsv2, dn.1, if_neg (by decide), if_neg dn.2]
          decide
        rw [simQ_zero u0 dn, qT_zero] at hT
        have RES2 : Hid (.tuple #[.string ⟨#[48]⟩, .int .i64 0] = Value.tuple #[.string ⟨T.1.toArray⟩, .int .i64 T.2]) := by
          show _ = _
          rw [← hT.out]
        clear hT u0 dn hsv2 eA eB hcb h1 h2 hO
        obtain ⟨⟨i0, i1, i2, i3, i4, i5⟩, -⟩ := box6 X6.out
        obtain ⟨⟨j0, j1, j2, j3, j4, j5⟩, -⟩ := box6 X8.out
        go_wp2_with (first
          | (go_at_call_of 34 (Value.agg #[.bool s2, .int .u64 p1, .slice p2 p3 p4, .int .u64 r1, .slice r2 r3 r4]); refine (QS2.out _ (Below.refl W3.heap.size W3)).mono ?_; rintro e we ⟨rfl, be⟩; have BE1 : Below W3.heap.size W3 we := Below.then_below (Below.refl W3.heap.size W3) be; obtain ⟨⟨i0, i1, i2, i3, i4, i5⟩, -⟩ := box6 (kept_block X6.out BE1); obtain ⟨⟨j0, j1, j2, j3, j4, j5⟩, -⟩ := box6 (kept_block X8.out BE1)))
        refine bodyPost_ret (v := .tuple #[.string ⟨#[48]⟩, .int .i64 0]) (by simp [results, Tryz.results13, go_sem]) rfl ?_
        exact ⟨by rw [RES2.out], D3.out.then_below BE1⟩
    | false =>
      have h2 : lb = [] := Classical.byContradiction (fun h => by have := hg2.out; rw [decide_eq_true h] at this; cases this)
      have dn : dn0 (bO lb) = false := by rw [h2]; rfl
      rw [simQ_zero u0 dn, qT_zero] at hT
      have RES2 : Hid (.tuple #[.string ⟨#[48]⟩, .int .i64 0] = Value.tuple #[.string ⟨T.1.toArray⟩, .int .i64 T.2]) := by
        show _ = _
        rw [← hT.out]
      clear hT u0 dn eA h1 h2 hO
      obtain ⟨⟨i0, i1, i2, i3, i4, i5⟩, -⟩ := box6 X6.out
      obtain ⟨⟨j0, j1, j2, j3, j4, j5⟩, -⟩ := box6 X8.out
      go_wp2
      refine bodyPost_ret (v := .tuple #[.string ⟨#[48]⟩, .int .i64 0]) (by simp [results, Tryz.results13, go_sem]) rfl ?_
      exact ⟨by rw [RES2.out], D3.out.then_below (Below.refl W3.heap.size W3)⟩
theorem numSimplest_calls (w : World) (sa sb : ByteArray) (la lb : List UInt8) (ha : sa.data.toList = la) (hb : sb.data.toList = lb) (hla : la.length ≤ 1048576) (hlb : lb.length ≤ 1048576) (env : Env w) :
    Calls Tryz.prog 13 #[.string sa, .string sb] w fun e w' => e = .returned (.tuple #[.string ⟨(simT la lb).1.toArray⟩, .int .i64 (simT la lb).2]) ∧ Below w.heap.size w w' := by
  cases hk : okB la && okB lb with
  | false =>
    have e : simT la lb = ([], 1) := by unfold simT; rw [hk]; rfl
    rw [e]
    exact numSim_no w sa sb la lb ha hb hla hlb env hk
  | true =>
    obtain ⟨h1, h2⟩ : okB la = true ∧ okB lb = true := by rw [Bool.and_eq_true] at hk; exact hk
    refine numSim_yes w sa sb la lb ha hb hla hlb env h1 h2 _ ?_
    unfold simT
    rw [hk, if_pos rfl]
end Go.Proofs.YtebnjolkolobhaaGreatDoor
