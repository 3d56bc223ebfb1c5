/- Laid together of: RatNeg, RatSub. -/
import Derived.Test.YtnpdieolahlpoaaGreatDoorMulC
import Derived.Test.YtnpdieolahlpoaaGreatDoorAll5
import Derived.Test.YtnpdieolahlpoaaGreatDoorMulD
import Derived.Test.YtnpdieolahlpoaaGreatDoorMulB
/- ==== RatNeg ==== -/
namespace Go.Proofs.YtnpdieolahlpoaaGreatDoor
open Go.RowKit
set_option linter.unusedVariables false
set_option maxRecDepth 100000 in
set_option maxHeartbeats 4000000 in
theorem neg_calls (w : World) (v : Value) (s : Bool) (n d : Nat) (h : DenR w v s n d) :
    Calls Tryz.prog 75 #[v] w fun e w' => (∃ r, e = .returned r ∧ DenR w' r (!s && !decide (n = 0)) n d) ∧ Below w.heap.size w w' := by
  obtain ⟨x1, x2, x3, x4, y1, y2, y3, y4, rfl, h1, h2⟩ := h
  obtain ⟨X1, Y1, -⟩ := two_new w (.cells #[.bool s, .int .u64 x1, .slice x2 x3 x4, .int .u64 y1, .slice y2 y3 y4] 42) (.cells #[.bool false, .int .u64 0, .slice none 0 0, .int .u64 0, .slice none 0 0] 42)
  have B0 := alloc2_below w (.cells #[.bool s, .int .u64 x1, .slice x2 x3 x4, .int .u64 y1, .slice y2 y3 y4] 42) (.cells #[.bool false, .int .u64 0, .slice none 0 0, .int .u64 0, .slice none 0 0] 42)
  obtain ⟨W0, hW0⟩ : ∃ W0, (w.alloc (.cells #[.bool s, .int .u64 x1, .slice x2 x3 x4, .int .u64 y1, .slice y2 y3 y4] 42)).alloc (.cells #[.bool false, .int .u64 0, .slice none 0 0, .int .u64 0, .slice none 0 0] 42) = W0 := ⟨_, rfl⟩
  rw [hW0] at X1 Y1 B0
  have q1 := hide (isZero_calls W0 _ n (h1.below B0))
  replace X1 := hide X1
  replace Y1 := hide Y1
  replace B0 := hide B0
  replace h1 := hide h1
  replace h2 := hide h2
  obtain ⟨⟨i0, i1, i2, i3, i4⟩, i5, i6, i7, i8, i9⟩ := ratBox X1.out
  obtain ⟨⟨j0, j1, j2, j3, j4⟩, j5, j6, j7, j8, j9⟩ := ratBox Y1.out
  have fin : ∀ (W : World) (x : Bool), Below W0.heap.size W0 W → DenR ((((((W.setCell ⟨w.heap.size, 0, none⟩ (.bool x)).setCell ⟨w.heap.size + 1, 0, none⟩ (.bool x)).setCell ⟨w.heap.size + 1, 1, none⟩ (.int .u64 x1)).setCell ⟨w.heap.size + 1, 2, none⟩ (.slice x2 x3 x4)).setCell ⟨w.heap.size + 1, 3, none⟩ (.int .u64 y1)).setCell ⟨w.heap.size + 1, 4, none⟩ (.slice y2 y3 y4)) (.agg #[.bool x, .int .u64 x1, .slice x2 x3 x4, .int .u64 y1, .slice y2 y3 y4]) x n d ∧ Below w.heap.size w ((((((W.setCell ⟨w.heap.size, 0, none⟩ (.bool x)).setCell ⟨w.heap.size + 1, 0, none⟩ (.bool x)).setCell ⟨w.heap.size + 1, 1, none⟩ (.int .u64 x1)).setCell ⟨w.heap.size + 1, 2, none⟩ (.slice x2 x3 x4)).setCell ⟨w.heap.size + 1, 3, none⟩ (.int .u64 y1)).setCell ⟨w.heap.size + 1, 4, none⟩ (.slice y2 y3 y4)) := by
    intro W x hW
    have q := grown_set W w.heap.size 0 (.bool x)
    have X2 := kept_block X1.out hW
    have Y2 := grown_block (kept_block Y1.out hW) q (by omega)
    have d1 := (h1.out.below B0.out).below hW
    have d2 := (h2.out.below B0.out).below hW
    have e1 := d1.kept q (d1.notin (nopair5 _ _ _ _ _ _ _ _ _) X2)
    have e2 := d2.kept q (d2.notin (nopair5 _ _ _ _ _ _ _ _ _) X2)
    have bw := (B0.out.then_below hW).then_grown q (by rintro g ⟨⟩; omega)
    have q' := set5 (W.setCell ⟨w.heap.size, 0, none⟩ (.bool x)) (w.heap.size + 1) (.bool x) (.int .u64 x1) (.slice x2 x3 x4) (.int .u64 y1) (.slice y2 y3 y4)
    exact ⟨DenR.make e1 e2 Y2 (nopair5 _ _ _ _ _ _ _ _ _) q', bw.then_grown q' (by rintro g ⟨⟩; omega)⟩
  replace fin := hide fin
  cases s with
  | true =>
    clear q1
    go_enter Tryz.func75, Tryz.ntmps75
    go_wp2
    refine bodyPost_ret (v := .agg #[.bool false, .int .u64 x1, .slice x2 x3 x4, .int .u64 y1, .slice y2 y3 y4]) (by simp [results, Tryz.results75, go_sem, j0, j1, j2, j3, j4]) rfl ?_
    obtain ⟨u, v⟩ := fin.out W0 false (Below.refl _ _)
    exact ⟨⟨_, rfl, u⟩, v⟩
  | false =>
    by_cases hn : n = 0
    · rw [decide_eq_true hn] at q1 ⊢
      clear hn
      go_enter Tryz.func75, Tryz.ntmps75
      go_wp2_with (go_at_call 23; refine q1.out.mono ?_; rintro e w2 ⟨rfl, b2⟩; obtain ⟨⟨k0, k1, k2, k3, k4⟩, k5, k6, k7, k8, k9⟩ := ratBox (kept_block X1.out b2); obtain ⟨⟨m0, m1, m2, m3, m4⟩, m5, m6, m7, m8, m9⟩ := ratBox (kept_block Y1.out b2); replace b2 := hide b2)
      refine bodyPost_ret (v := .agg #[.bool false, .int .u64 x1, .slice x2 x3 x4, .int .u64 y1, .slice y2 y3 y4]) (by simp [results, Tryz.results75, go_sem, m0, m1, m2, m3, m4]) rfl ?_
      obtain ⟨u, v⟩ := fin.out w2 false b2.out
      exact ⟨⟨_, rfl, u⟩, v⟩
    · rw [decide_eq_false hn] at q1 ⊢
      clear hn
      go_enter Tryz.func75, Tryz.ntmps75
      go_wp2_with (go_at_call 23; refine q1.out.mono ?_; rintro e w2 ⟨rfl, b2⟩; obtain ⟨⟨k0, k1, k2, k3, k4⟩, k5, k6, k7, k8, k9⟩ := ratBox (kept_block X1.out b2); obtain ⟨⟨m0, m1, m2, m3, m4⟩, m5, m6, m7, m8, m9⟩ := ratBox (kept_block Y1.out b2); replace b2 := hide b2)
      refine bodyPost_ret (v := .agg #[.bool true, .int .u64 x1, .slice x2 x3 x4, .int .u64 y1, .slice y2 y3 y4]) (by simp [results, Tryz.results75, go_sem, m0, m1, m2, m3, m4]) rfl ?_
      obtain ⟨u, v⟩ := fin.out w2 true b2.out
      exact ⟨⟨_, rfl, u⟩, v⟩
/-- How two rationals lie. -/
def cmpR (s1 : Bool) (n1 D1 : Nat) (s2 : Bool) (n2 D2 : Nat) : Int := if s1 = s2 then (if s1 then - M.cmp (n1 * D2 : Nat) (n2 * D1 : Nat) else M.cmp (n1 * D2 : Nat) (n2 * D1 : Nat)) else if s1 then -1 else 1
theorem natCmp_c (w : World) (u v : Value) (n m : Nat) (c : Int) (hc : M.cmp n m = c) (hu : Den w u n) (hv : Den w v m) :
    Calls Tryz.prog 69 #[u, v] w fun e w' => e = .returned (.int .i64 c) ∧ Below w.heap.size w w' := by
  rw [← hc]
  exact natCmp_calls w u v n m hu hv
theorem cmp_range (a b : Int) : -1 ≤ M.cmp a b ∧ M.cmp a b ≤ 1 := by unfold M.cmp; split <;> (try split) <;> decide
set_option maxRecDepth 100000 in
set_option maxHeartbeats 8000000 in
theorem pcmp_ne (w : World) (va vb : Value) (s1 s2 : Bool) (n1 d1 n2 d2 : Nat) (ha : DenR w va s1 n1 d1) (hb : DenR w vb s2 n2 d2) (hs : s1 ≠ s2) :
    Calls Tryz.prog 45 #[va, vb] w fun e w' => e = .returned (.int .i64 (if s1 then -1 else 1)) ∧ Below w.heap.size w w' := by
  have ha' := hide ha
  have hb' := hide hb
  obtain ⟨x1, x2, x3, x4, y1, y2, y3, y4, rfl, a1, a2⟩ := ha
  obtain ⟨p1, p2, p3, p4, r1, r2, r3, r4, rfl, b1, b2⟩ := hb
  have z1 : (w.alloc (.cells #[.bool s1, .int .u64 x1, .slice x2 x3 x4, .int .u64 y1, .slice y2 y3 y4] 42)).heap.size = w.heap.size + 1 := by show (w.heap.push _).size = _; simp
  have P0 := kept_block (heap_alloc_new w (.cells #[.bool s1, .int .u64 x1, .slice x2 x3 x4, .int .u64 y1, .slice y2 y3 y4] 42)) (alloc_below _ (.cells #[.bool s2, .int .u64 p1, .slice p2 p3 p4, .int .u64 r1, .slice r2 r3 r4] 42))
  have Q0 := heap_alloc_new (w.alloc (.cells #[.bool s1, .int .u64 x1, .slice x2 x3 x4, .int .u64 y1, .slice y2 y3 y4] 42)) (.cells #[.bool s2, .int .u64 p1, .slice p2 p3 p4, .int .u64 r1, .slice r2 r3 r4] 42)
  rw [z1] at Q0
  have B0 := alloc2_below w (.cells #[.bool s1, .int .u64 x1, .slice x2 x3 x4, .int .u64 y1, .slice y2 y3 y4] 42) (.cells #[.bool s2, .int .u64 p1, .slice p2 p3 p4, .int .u64 r1, .slice r2 r3 r4] 42)
  clear z1
  obtain ⟨W0, hW0⟩ : ∃ W0, ((w.alloc (.cells #[.bool s1, .int .u64 x1, .slice x2 x3 x4, .int .u64 y1, .slice y2 y3 y4] 42)).alloc (.cells #[.bool s2, .int .u64 p1, .slice p2 p3 p4, .int .u64 r1, .slice r2 r3 r4] 42)) = W0 := ⟨_, rfl⟩
  rw [hW0] at P0 Q0 B0
  replace P0 := hide P0
  replace Q0 := hide Q0
  replace B0 := hide B0
  replace a1 := hide a1
  replace a2 := hide a2
  replace b1 := hide b1
  replace b2 := hide b2
  obtain ⟨⟨i0, i1, i2, i3, i4⟩, -⟩ := ratBox P0.out
  obtain ⟨⟨j0, j1, j2, j3, j4⟩, -⟩ := ratBox Q0.out
  cases s1 <;> cases s2
  · exact absurd rfl hs
  · go_enter Tryz.func45, Tryz.ntmps45
    go_wp2
    go_ret
    exact ⟨rfl, B0.out⟩
  · go_enter Tryz.func45, Tryz.ntmps45
    go_wp2
    go_ret
    exact ⟨rfl, B0.out⟩
  · exact absurd rfl hs
set_option maxRecDepth 100000 in
set_option maxHeartbeats 8000000 in
theorem psizes_calls (w : World) (va vb : Value) (s1 s2 : Bool) (n1 d1 n2 d2 K : Nat) (ha : DenR w va s1 n1 d1) (hb : DenR w vb s2 n2 d2) (k1 : (n1 : Int) < M.BB ^ K) (l1 : ((lowN d1 : Nat) : Int) < M.BB ^ K) (k2 : (n2 : Int) < M.BB ^ K) (l2 : ((lowN d2 : Nat) : Int) < M.BB ^ K) (hK : K ≤ 4398046511104) (c : Int) (hc : M.cmp (n1 * lowN d2 : Nat) (n2 * lowN d1 : Nat) = c) :
    Calls Tryz.prog 71 #[va, vb] w fun e w' => e = .returned (.int .i64 c) ∧ Below w.heap.size w w' := by
  have ha' := hide ha
  have hb' := hide hb
  obtain ⟨x1, x2, x3, x4, y1, y2, y3, y4, rfl, a1, a2⟩ := ha
  obtain ⟨p1, p2, p3, p4, r1, r2, r3, r4, rfl, b1, b2⟩ := hb
  have z1 : (w.alloc (.cells #[.bool s1, .int .u64 x1, .slice x2 x3 x4, .int .u64 y1, .slice y2 y3 y4] 42)).heap.size = w.heap.size + 1 := by show (w.heap.push _).size = _; simp
  have P0 := kept_block (heap_alloc_new w (.cells #[.bool s1, .int .u64 x1, .slice x2 x3 x4, .int .u64 y1, .slice y2 y3 y4] 42)) (alloc_below _ (.cells #[.bool s2, .int .u64 p1, .slice p2 p3 p4, .int .u64 r1, .slice r2 r3 r4] 42))
  have Q0 := heap_alloc_new (w.alloc (.cells #[.bool s1, .int .u64 x1, .slice x2 x3 x4, .int .u64 y1, .slice y2 y3 y4] 42)) (.cells #[.bool s2, .int .u64 p1, .slice p2 p3 p4, .int .u64 r1, .slice r2 r3 r4] 42)
  rw [z1] at Q0
  have B0 := alloc2_below w (.cells #[.bool s1, .int .u64 x1, .slice x2 x3 x4, .int .u64 y1, .slice y2 y3 y4] 42) (.cells #[.bool s2, .int .u64 p1, .slice p2 p3 p4, .int .u64 r1, .slice r2 r3 r4] 42)
  clear z1
  obtain ⟨W0, hW0⟩ : ∃ W0, ((w.alloc (.cells #[.bool s1, .int .u64 x1, .slice x2 x3 x4, .int .u64 y1, .slice y2 y3 y4] 42)).alloc (.cells #[.bool s2, .int .u64 p1, .slice p2 p3 p4, .int .u64 r1, .slice r2 r3 r4] 42)) = W0 := ⟨_, rfl⟩
  rw [hW0] at P0 Q0 B0
  replace P0 := hide P0
  replace Q0 := hide Q0
  replace B0 := hide B0
  replace a1 := hide a1
  replace a2 := hide a2
  replace b1 := hide b1
  replace b2 := hide b2
  obtain ⟨⟨i0, i1, i2, i3, i4⟩, -⟩ := ratBox P0.out
  obtain ⟨⟨j0, j1, j2, j3, j4⟩, -⟩ := ratBox Q0.out
  have HA := hide (ha'.out.below B0.out)
  have HB := hide (hb'.out.below B0.out)
  have A1 := hide (a1.out.below B0.out)
  have N1 := hide (b1.out.below B0.out)
  clear ha' hb' a1 a2 b1 b2
  replace k1 := hide k1
  replace k2 := hide k2
  replace l1 := hide l1
  replace l2 := hide l2
  obtain ⟨hm1, hm2⟩ := cmp_range (n1 * lowN d2 : Nat) (n2 * lowN d1 : Nat)
  rw [hc] at hm1 hm2
  replace hc := hide hc
  go_enter Tryz.func71, Tryz.ntmps71
  by_cases hd : d1 = 0 ∧ d2 = 0
  · obtain ⟨h1, h2⟩ := hd
    have q1 := hide (isWhole_calls W0 _ s1 n1 d1 HA.out)
    have q2 := hide (fun W (hW : Below W0.heap.size W0 W) => isWhole_calls W _ s2 n2 d2 (HB.out.below hW))
    rw [decide_eq_true h1] at q1
    rw [decide_eq_true h2] at q2
    have hc' : M.cmp (n1 : Nat) (n2 : Nat) = c := by
      have := hc.out
      rw [h1, h2, show lowN 0 = 1 from rfl, Nat.mul_one, Nat.mul_one] at this
      exact this
    have q3 := hide (fun W (hW : Below W0.heap.size W0 W) => natCmp_c W _ _ n1 n2 c hc' (A1.out.below hW) (N1.out.below hW))
    clear h1 h2 hc' hc k1 k2 l1 l2 hm1 hm2
    go_wp2_with (first
      | (go_at_call_of 44 (Value.agg #[.bool s1, .int .u64 x1, .slice x2 x3 x4, .int .u64 y1, .slice y2 y3 y4]); refine q1.out.mono ?_; rintro e wa ⟨rfl, ba⟩; obtain ⟨⟨t0, t1, t2, t3, t4⟩, -⟩ := ratBox (kept_block Q0.out ba); replace ba := hide ba)
      | (go_at_call_of 44 (Value.agg #[.bool s2, .int .u64 p1, .slice p2 p3 p4, .int .u64 r1, .slice r2 r3 r4]); refine (q2.out _ ba.out).mono ?_; rintro e wb ⟨rfl, bb⟩; replace bb := hide (ba.out.then_below bb); obtain ⟨⟨u0, u1, u2, u3, u4⟩, -⟩ := ratBox (kept_block P0.out bb.out); obtain ⟨⟨v0, v1, v2, v3, v4⟩, -⟩ := ratBox (kept_block Q0.out bb.out))
      | (go_at_call 69; refine (q3.out _ bb.out).mono ?_; rintro e wz ⟨rfl, bz⟩))
    go_ret
    exact ⟨rfl, B0.out.then_below (bb.out.then_below bz)⟩
  · have HD := hide hd
    clear hd
    go_upto_region 1 with fail
    go_cut [10] (fun sx wx => sx = .bool false ∧ Hid (Below W0.heap.size W0 wx))
    case first =>
      by_cases h1 : d1 = 0
      · have h2 : d2 ≠ 0 := fun e => HD.out ⟨h1, e⟩
        have q1 := hide (isWhole_calls W0 _ s1 n1 d1 HA.out)
        have q2 := hide (fun W (hW : Below W0.heap.size W0 W) => isWhole_calls W _ s2 n2 d2 (HB.out.below hW))
        rw [decide_eq_true h1] at q1
        rw [decide_eq_false h2] at q2
        clear h1 h2
        go_wp2_with (first
          | (go_at_call_of 44 (Value.agg #[.bool s1, .int .u64 x1, .slice x2 x3 x4, .int .u64 y1, .slice y2 y3 y4]); refine q1.out.mono ?_; rintro e wa ⟨rfl, ba⟩; obtain ⟨⟨t0, t1, t2, t3, t4⟩, -⟩ := ratBox (kept_block Q0.out ba); replace ba := hide ba)
          | (go_at_call_of 44 (Value.agg #[.bool s2, .int .u64 p1, .slice p2 p3 p4, .int .u64 r1, .slice r2 r3 r4]); refine (q2.out _ ba.out).mono ?_; rintro e wb ⟨rfl, bb⟩; replace bb := hide (ba.out.then_below bb)))
        go_meet
        exact ⟨rfl, bb⟩
      · have q1 := hide (isWhole_calls W0 _ s1 n1 d1 HA.out)
        rw [decide_eq_false h1] at q1
        clear h1
        go_wp2_with (first
          | (go_at_call_of 44 (Value.agg #[.bool s1, .int .u64 x1, .slice x2 x3 x4, .int .u64 y1, .slice y2 y3 y4]); refine q1.out.mono ?_; rintro e wa ⟨rfl, ba⟩; replace ba := hide ba))
        go_meet
        exact ⟨rfl, ba⟩
    case rest =>
      obtain ⟨rfl, BC⟩ := hcut
      clear i0 i1 i2 i3 i4 j0 j1 j2 j3 j4
      obtain ⟨⟨i0, i1, i2, i3, i4⟩, -⟩ := ratBox (kept_block P0.out BC.out)
      obtain ⟨⟨j0, j1, j2, j3, j4⟩, -⟩ := ratBox (kept_block Q0.out BC.out)
      have HA := hide (HA.out.below BC.out)
      have HB := hide (HB.out.below BC.out)
      have A1 := hide (A1.out.below BC.out)
      have N1 := hide (N1.out.below BC.out)
      have B0 := hide (B0.out.then_below BC.out)
      go_upto_region 3 with fail
      go_cut [4] (fun sx wx => sx = .int .i64 c ∧ Hid (Below wc.heap.size wc wx))
      case first =>
        have S0 := hide (And.intro i0 (And.intro i1 (And.intro i2 (And.intro i3 (And.intro i4 (And.intro j0 (And.intro j1 (And.intro j2 (And.intro j3 j4)))))))))
        clear i0 i1 i2 i3 i4 j0 j1 j2 j3 j4 hW0
        go_region_held3
          (fun w' => w'.cell? ⟨w.heap.size, 0, none⟩ = some (.bool s1) ∧ w'.cell? ⟨w.heap.size, 1, none⟩ = some (.int .u64 x1) ∧ w'.cell? ⟨w.heap.size, 2, none⟩ = some (.slice x2 x3 x4) ∧ w'.cell? ⟨w.heap.size, 3, none⟩ = some (.int .u64 y1) ∧ w'.cell? ⟨w.heap.size, 4, none⟩ = some (.slice y2 y3 y4) ∧ w'.cell? ⟨w.heap.size + 1, 0, none⟩ = some (.bool s2) ∧ w'.cell? ⟨w.heap.size + 1, 1, none⟩ = some (.int .u64 p1) ∧ w'.cell? ⟨w.heap.size + 1, 2, none⟩ = some (.slice p2 p3 p4) ∧ w'.cell? ⟨w.heap.size + 1, 3, none⟩ = some (.int .u64 r1) ∧ w'.cell? ⟨w.heap.size + 1, 4, none⟩ = some (.slice r2 r3 r4))
          ((repeat (first | with_reducible exact S0.out | with_reducible refine bare10_keep ?_ b5 | with_reducible refine bare10_keep ?_ b4 | with_reducible refine bare10_keep ?_ b3 | with_reducible refine bare10_keep ?_ b2 | with_reducible refine bare10_keep ?_ b1 | with_reducible refine bare10_keep ?_ ((Below.refl _ _).drew))))
          (first
            | (go_at_call_of 48 (Value.agg #[.bool s2, .int .u64 p1, .slice p2 p3 p4, .int .u64 r1, .slice r2 r3 r4]); refine (lower_low _ _ s2 n2 d2 (HB.out.below (by repeat (first | with_reducible exact Below.refl _ _ | with_reducible refine Below.drew ?_ | with_reducible refine Below.then_below ?_ (alloc_below _ _))))).mono ?_; rintro e w1 ⟨⟨qa, rfl, da⟩, b1⟩)
            | (go_at_call_of 49 (Value.agg #[.int .u64 x1, .slice x2 x3 x4]); refine (natMul_calls _ _ _ n1 (lowN d2) K (A1.out.below (by repeat (first | with_reducible exact Below.refl _ _ | with_reducible refine Below.drew ?_ | with_reducible refine Below.then_below ?_ (alloc_below _ _) | with_reducible refine Below.then_below ?_ b1))) da k1.out l2.out hK).mono ?_; rintro e w2 ⟨⟨qb, rfl, db⟩, b2⟩)
            | (go_at_call_of 48 (Value.agg #[.bool s1, .int .u64 x1, .slice x2 x3 x4, .int .u64 y1, .slice y2 y3 y4]); refine (lower_low _ _ s1 n1 d1 (HA.out.below (by repeat (first | with_reducible exact Below.refl _ _ | with_reducible refine Below.drew ?_ | with_reducible refine Below.then_below ?_ (alloc_below _ _) | with_reducible refine Below.then_below ?_ b2 | with_reducible refine Below.then_below ?_ b1)))).mono ?_; rintro e w3 ⟨⟨qc, rfl, dc⟩, b3⟩)
            | (go_at_call_of 49 (Value.agg #[.int .u64 p1, .slice p2 p3 p4]); refine (natMul_calls _ _ _ n2 (lowN d1) K (N1.out.below (by repeat (first | with_reducible exact Below.refl _ _ | with_reducible refine Below.drew ?_ | with_reducible refine Below.then_below ?_ (alloc_below _ _) | with_reducible refine Below.then_below ?_ b3 | with_reducible refine Below.then_below ?_ b2 | with_reducible refine Below.then_below ?_ b1))) dc k2.out l1.out hK).mono ?_; rintro e w4 ⟨⟨qd, rfl, dd⟩, b4⟩)
            | (go_at_call 69; refine (natCmp_c _ _ _ (n1 * lowN d2) (n2 * lowN d1) c hc.out ((db.below b3).below b4) dd).mono ?_; rintro e w5 ⟨rfl, b5⟩))
        go_wp2_with fail
        go_meet
        exact ⟨rfl, hide ((by repeat (first | with_reducible exact Below.refl _ _ | with_reducible refine Below.drew ?_ | with_reducible refine Below.then_below ?_ (alloc_below _ _) | with_reducible refine Below.then_below ?_ b5 | with_reducible refine Below.then_below ?_ b4 | with_reducible refine Below.then_below ?_ b3 | with_reducible refine Below.then_below ?_ b2 | with_reducible refine Below.then_below ?_ b1)))⟩
      case rest =>
        obtain ⟨rfl, B1⟩ := hcut
        go_wp2
        go_ret
        exact ⟨rfl, B0.out.then_below B1.out⟩
set_option maxRecDepth 100000 in
set_option maxHeartbeats 8000000 in
theorem pcmp_eq (w : World) (va vb : Value) (s1 : Bool) (n1 d1 n2 d2 K : Nat) (ha : DenR w va s1 n1 d1) (hb : DenR w vb s1 n2 d2) (k1 : (n1 : Int) < M.BB ^ K) (l1 : ((lowN d1 : Nat) : Int) < M.BB ^ K) (k2 : (n2 : Int) < M.BB ^ K) (l2 : ((lowN d2 : Nat) : Int) < M.BB ^ K) (hK : K ≤ 4398046511104) (c : Int) (hc : M.cmp (n1 * lowN d2 : Nat) (n2 * lowN d1 : Nat) = c) :
    Calls Tryz.prog 45 #[va, vb] w fun e w' => e = .returned (.int .i64 (if s1 then - c else c)) ∧ Below w.heap.size w w' := by
  have ha' := hide ha
  have hb' := hide hb
  obtain ⟨x1, x2, x3, x4, y1, y2, y3, y4, rfl, a1, a2⟩ := ha
  obtain ⟨p1, p2, p3, p4, r1, r2, r3, r4, rfl, b1, b2⟩ := hb
  have z1 : (w.alloc (.cells #[.bool s1, .int .u64 x1, .slice x2 x3 x4, .int .u64 y1, .slice y2 y3 y4] 42)).heap.size = w.heap.size + 1 := by show (w.heap.push _).size = _; simp
  have P0 := kept_block (heap_alloc_new w (.cells #[.bool s1, .int .u64 x1, .slice x2 x3 x4, .int .u64 y1, .slice y2 y3 y4] 42)) (alloc_below _ (.cells #[.bool s1, .int .u64 p1, .slice p2 p3 p4, .int .u64 r1, .slice r2 r3 r4] 42))
  have Q0 := heap_alloc_new (w.alloc (.cells #[.bool s1, .int .u64 x1, .slice x2 x3 x4, .int .u64 y1, .slice y2 y3 y4] 42)) (.cells #[.bool s1, .int .u64 p1, .slice p2 p3 p4, .int .u64 r1, .slice r2 r3 r4] 42)
  rw [z1] at Q0
  have B0 := alloc2_below w (.cells #[.bool s1, .int .u64 x1, .slice x2 x3 x4, .int .u64 y1, .slice y2 y3 y4] 42) (.cells #[.bool s1, .int .u64 p1, .slice p2 p3 p4, .int .u64 r1, .slice r2 r3 r4] 42)
  clear z1
  obtain ⟨W0, hW0⟩ : ∃ W0, ((w.alloc (.cells #[.bool s1, .int .u64 x1, .slice x2 x3 x4, .int .u64 y1, .slice y2 y3 y4] 42)).alloc (.cells #[.bool s1, .int .u64 p1, .slice p2 p3 p4, .int .u64 r1, .slice r2 r3 r4] 42)) = W0 := ⟨_, rfl⟩
  rw [hW0] at P0 Q0 B0
  replace P0 := hide P0
  replace Q0 := hide Q0
  replace B0 := hide B0
  replace a1 := hide a1
  replace a2 := hide a2
  replace b1 := hide b1
  replace b2 := hide b2
  obtain ⟨⟨i0, i1, i2, i3, i4⟩, -⟩ := ratBox P0.out
  obtain ⟨⟨j0, j1, j2, j3, j4⟩, -⟩ := ratBox Q0.out
  have HA := hide (ha'.out.below B0.out)
  have HB := hide (hb'.out.below B0.out)
  have A1 := hide (a1.out.below B0.out)
  have N1 := hide (b1.out.below B0.out)
  clear ha' hb' a1 a2 b1 b2
  replace k1 := hide k1
  replace k2 := hide k2
  replace l1 := hide l1
  replace l2 := hide l2
  obtain ⟨hm1, hm2⟩ := cmp_range (n1 * lowN d2 : Nat) (n2 * lowN d1 : Nat)
  rw [hc] at hm1 hm2
  replace hc := hide hc
  have q5 := hide (psizes_calls W0 _ _ s1 s1 n1 d1 n2 d2 K HA.out HB.out k1.out l1.out k2.out l2.out hK c hc.out)
  clear k1 k2 l1 l2 hc
  go_enter Tryz.func45, Tryz.ntmps45
  go_upto_region 5 with fail
  go_cut [5] (fun sx wx => sx = .int .i64 c ∧ Hid (Below W0.heap.size W0 wx))
  case first =>
    go_wp2_with (go_at_call 71; refine q5.out.mono ?_; rintro e w5 ⟨rfl, b5⟩; replace b5 := hide b5)
    go_meet
    exact ⟨rfl, b5⟩
  case rest =>
  obtain ⟨rfl, B1⟩ := hcut
  have BW := hide (B0.out.then_below B1.out)
  obtain ⟨⟨i0, i1, i2, i3, i4⟩, -⟩ := ratBox (kept_block P0.out B1.out)
  cases s1 with
  | true =>
    go_wp2
    go_ret
    exact ⟨rfl, BW.out⟩
  | false =>
    go_wp2
    go_ret
    exact ⟨rfl, BW.out⟩
theorem pcmp_calls (w : World) (va vb : Value) (s1 s2 : Bool) (n1 d1 n2 d2 K : Nat) (ha : DenR w va s1 n1 d1) (hb : DenR w vb s2 n2 d2) (k1 : (n1 : Int) < M.BB ^ K) (l1 : ((lowN d1 : Nat) : Int) < M.BB ^ K) (k2 : (n2 : Int) < M.BB ^ K) (l2 : ((lowN d2 : Nat) : Int) < M.BB ^ K) (hK : K ≤ 4398046511104) :
    Calls Tryz.prog 45 #[va, vb] w fun e w' => e = .returned (.int .i64 (cmpR s1 n1 (lowN d1) s2 n2 (lowN d2))) ∧ Below w.heap.size w w' := by
  unfold cmpR
  by_cases h : s1 = s2
  · subst h
    rw [if_pos rfl]
    exact pcmp_eq w va vb s1 n1 d1 n2 d2 K ha hb k1 l1 k2 l2 hK _ rfl
  · rw [if_neg h]
    exact pcmp_ne w va vb s1 s2 n1 d1 n2 d2 ha hb h
end Go.Proofs.YtnpdieolahlpoaaGreatDoor
/- ==== RatSub ==== -/
namespace Go.Proofs.YtnpdieolahlpoaaGreatDoor
open Go.RowKit
set_option linter.unusedVariables false
theorem low_of_whole {w : World} {r : Value} {neg : Bool} {n : Nat} (h : DenR w r (neg && !decide (n = 0)) n 0) : Low w r neg n 1 := by
  unfold Low
  rw [if_pos (.inr rfl)]
  exact h
theorem lowN_zero : lowN 0 = 1 := rfl
theorem lowN_of {d : Nat} (h : d ≠ 0) : lowN d = d := if_neg h
theorem pmul_calls (w : World) (va vb : Value) (s1 s2 : Bool) (n1 d1 n2 d2 K : Nat) (ha : DenR w va s1 n1 d1) (hb : DenR w vb s2 n2 d2) (k1 : (n1 : Int) < M.BB ^ K) (l1 : ((lowN d1 : Nat) : Int) < M.BB ^ K) (k2 : (n2 : Int) < M.BB ^ K) (l2 : ((lowN d2 : Nat) : Int) < M.BB ^ K) (c1 : Nat.gcd n1 (lowN d1) = 1) (c2 : Nat.gcd n2 (lowN d2) = 1) (hK : K ≤ 4398046511104) (hT : Tab w) :
    Calls Tryz.prog 33 #[va, vb] w fun e w' => (∃ r, e = .returned r ∧ Low w' r (s1 != s2) (n1 * n2 / Nat.gcd (n1 * n2) (lowN d1 * lowN d2)) (lowN d1 * lowN d2 / Nat.gcd (n1 * n2) (lowN d1 * lowN d2))) ∧ Below w.heap.size w w' := by
  by_cases hd : d1 = 0 ∧ d2 = 0
  · obtain ⟨h1, h2⟩ := hd
    refine (pmul_whole w va vb s1 s2 n1 d1 n2 d2 K ha hb h1 h2 k1 k2 hK).mono ?_
    rintro e w' ⟨⟨r, rfl, hr⟩, b⟩
    refine ⟨⟨r, rfl, ?_⟩, b⟩
    rw [h1, h2, lowN_zero, Nat.mul_one, Nat.gcd_one_right, Nat.div_one, Nat.div_one]
    exact low_of_whole hr
  · refine (pmul_frac w va vb s1 s2 n1 d1 n2 d2 K ha hb hd k1 l1 k2 l2 hK hT).mono ?_
    rintro e w' ⟨⟨r, rfl, hr⟩, b⟩
    refine ⟨⟨r, rfl, ?_⟩, b⟩
    obtain ⟨e1, e2⟩ := M.mul_cross c1 c2
    rw [← e1, ← e2]
    exact hr
theorem padd_calls (w : World) (va vb : Value) (s1 s2 : Bool) (n1 d1 n2 d2 K : Nat) (ha : DenR w va s1 n1 d1) (hb : DenR w vb s2 n2 d2) (k1 : (n1 : Int) < M.BB ^ K) (l1 : ((lowN d1 : Nat) : Int) < M.BB ^ K) (k2 : (n2 : Int) < M.BB ^ K) (l2 : ((lowN d2 : Nat) : Int) < M.BB ^ K) (c1 : Nat.gcd n1 (lowN d1) = 1) (c2 : Nat.gcd n2 (lowN d2) = 1) (hK : 2 * K + 1 ≤ 4398046511104) (hT : Tab w) :
    Calls Tryz.prog 28 #[va, vb] w fun e w' => (∃ r, e = .returned r ∧ Low w' r (M.addS s1 (n1 * lowN d2) s2 (n2 * lowN d1)).1 ((M.addS s1 (n1 * lowN d2) s2 (n2 * lowN d1)).2 / Nat.gcd (M.addS s1 (n1 * lowN d2) s2 (n2 * lowN d1)).2 (lowN d1 * lowN d2)) (lowN d1 * lowN d2 / Nat.gcd (M.addS s1 (n1 * lowN d2) s2 (n2 * lowN d1)).2 (lowN d1 * lowN d2))) ∧ Below w.heap.size w w' := by
  by_cases hd : d1 = 0 ∧ d2 = 0
  · obtain ⟨h1, h2⟩ := hd
    refine (padd_whole w va vb s1 s2 n1 d1 n2 d2 K ha hb h1 h2 k1 k2 (by omega)).mono ?_
    rintro e w' ⟨⟨r, rfl, hr⟩, b⟩
    refine ⟨⟨r, rfl, ?_⟩, b⟩
    rw [h1, h2, lowN_zero, Nat.mul_one, Nat.mul_one, Nat.mul_one, Nat.gcd_one_right, Nat.div_one, Nat.div_one]
    exact low_of_whole hr
  · refine (padd_frac w va vb s1 s2 n1 d1 n2 d2 K ha hb hd k1 l1 k2 l2 hK hT _ _ _ _ _ _ rfl rfl rfl rfl rfl rfl).mono ?_
    rintro e w' ⟨⟨r, rfl, hr⟩, b⟩
    refine ⟨⟨r, rfl, ?_⟩, b⟩
    obtain ⟨e0, e1, e2⟩ := M.add_cross (sa := s1) (sb := s2) (lowN_pos d1) (lowN_pos d2) c1 c2 _ _ _ rfl rfl rfl
    rw [← e0, ← e1, ← e2]
    exact hr
set_option maxRecDepth 100000 in
set_option maxHeartbeats 8000000 in
theorem psub_calls (w : World) (va vb : Value) (s1 s2 : Bool) (n1 d1 n2 d2 K : Nat) (ha : DenR w va s1 n1 d1) (hb : DenR w vb s2 n2 d2) (k1 : (n1 : Int) < M.BB ^ K) (l1 : ((lowN d1 : Nat) : Int) < M.BB ^ K) (k2 : (n2 : Int) < M.BB ^ K) (l2 : ((lowN d2 : Nat) : Int) < M.BB ^ K) (c1 : Nat.gcd n1 (lowN d1) = 1) (c2 : Nat.gcd n2 (lowN d2) = 1) (hK : 2 * K + 1 ≤ 4398046511104) (hT : Tab w) :
    Calls Tryz.prog 50 #[va, vb] w fun e w' => (∃ r, e = .returned r ∧ Low w' r (M.addS s1 (n1 * lowN d2) (!s2 && !decide (n2 = 0)) (n2 * lowN d1)).1 ((M.addS s1 (n1 * lowN d2) (!s2 && !decide (n2 = 0)) (n2 * lowN d1)).2 / Nat.gcd (M.addS s1 (n1 * lowN d2) (!s2 && !decide (n2 = 0)) (n2 * lowN d1)).2 (lowN d1 * lowN d2)) (lowN d1 * lowN d2 / Nat.gcd (M.addS s1 (n1 * lowN d2) (!s2 && !decide (n2 = 0)) (n2 * lowN d1)).2 (lowN d1 * lowN d2))) ∧ Below w.heap.size w w' := by
  have ha' := hide ha
  have hb' := hide hb
  obtain ⟨x1, x2, x3, x4, y1, y2, y3, y4, rfl, a1, a2⟩ := ha
  obtain ⟨p1, p2, p3, p4, r1, r2, r3, r4, rfl, b1, b2⟩ := hb
  have z1 : (w.alloc (.cells #[.bool s1, .int .u64 x1, .slice x2 x3 x4, .int .u64 y1, .slice y2 y3 y4] 42)).heap.size = w.heap.size + 1 := by show (w.heap.push _).size = _; simp
  have z2 : ((w.alloc (.cells #[.bool s1, .int .u64 x1, .slice x2 x3 x4, .int .u64 y1, .slice y2 y3 y4] 42)).alloc (.cells #[.bool s2, .int .u64 p1, .slice p2 p3 p4, .int .u64 r1, .slice r2 r3 r4] 42)).heap.size = w.heap.size + 1 + 1 := by show ((w.heap.push _).push _).size = _; simp
  have P0 := kept_block (kept_block (heap_alloc_new w (.cells #[.bool s1, .int .u64 x1, .slice x2 x3 x4, .int .u64 y1, .slice y2 y3 y4] 42)) (alloc_below _ (.cells #[.bool s2, .int .u64 p1, .slice p2 p3 p4, .int .u64 r1, .slice r2 r3 r4] 42))) (alloc_below _ (.cells #[.bool false, .int .u64 0, .slice none 0 0, .int .u64 0, .slice none 0 0] 42))
  have Q0 := kept_block (heap_alloc_new (w.alloc (.cells #[.bool s1, .int .u64 x1, .slice x2 x3 x4, .int .u64 y1, .slice y2 y3 y4] 42)) (.cells #[.bool s2, .int .u64 p1, .slice p2 p3 p4, .int .u64 r1, .slice r2 r3 r4] 42)) (alloc_below _ (.cells #[.bool false, .int .u64 0, .slice none 0 0, .int .u64 0, .slice none 0 0] 42))
  have R0 := heap_alloc_new ((w.alloc (.cells #[.bool s1, .int .u64 x1, .slice x2 x3 x4, .int .u64 y1, .slice y2 y3 y4] 42)).alloc (.cells #[.bool s2, .int .u64 p1, .slice p2 p3 p4, .int .u64 r1, .slice r2 r3 r4] 42)) (.cells #[.bool false, .int .u64 0, .slice none 0 0, .int .u64 0, .slice none 0 0] 42)
  rw [z1] at Q0
  rw [z2] at R0
  have B0 := (alloc2_below w (.cells #[.bool s1, .int .u64 x1, .slice x2 x3 x4, .int .u64 y1, .slice y2 y3 y4] 42) (.cells #[.bool s2, .int .u64 p1, .slice p2 p3 p4, .int .u64 r1, .slice r2 r3 r4] 42)).then_below (alloc_below _ (.cells #[.bool false, .int .u64 0, .slice none 0 0, .int .u64 0, .slice none 0 0] 42))
  clear z1 z2
  obtain ⟨W0, hW0⟩ : ∃ W0, ((w.alloc (.cells #[.bool s1, .int .u64 x1, .slice x2 x3 x4, .int .u64 y1, .slice y2 y3 y4] 42)).alloc (.cells #[.bool s2, .int .u64 p1, .slice p2 p3 p4, .int .u64 r1, .slice r2 r3 r4] 42)).alloc (.cells #[.bool false, .int .u64 0, .slice none 0 0, .int .u64 0, .slice none 0 0] 42) = W0 := ⟨_, rfl⟩
  rw [hW0] at P0 Q0 R0 B0
  replace P0 := hide P0
  replace Q0 := hide Q0
  replace R0 := hide R0
  replace B0 := hide B0
  replace a1 := hide a1
  replace a2 := hide a2
  replace b1 := hide b1
  replace b2 := hide b2
  obtain ⟨⟨i0, i1, i2, i3, i4⟩, -⟩ := ratBox P0.out
  obtain ⟨⟨j0, j1, j2, j3, j4⟩, -⟩ := ratBox Q0.out
  replace k1 := hide k1
  replace k2 := hide k2
  replace l1 := hide l1
  replace l2 := hide l2
  replace c1 := hide c1
  replace c2 := hide c2
  have TT := hide (hT.below B0.out)
  clear hT
  have HA := hide (ha'.out.below B0.out)
  have HB := hide (hb'.out.below B0.out)
  clear ha' hb' a1 a2 b1 b2
  go_enter Tryz.func50, Tryz.ntmps50
  go_upto_region 1 with fail
  have S0 := hide (And.intro i0 (And.intro i1 (And.intro i2 (And.intro i3 (And.intro i4 (And.intro j0 (And.intro j1 (And.intro j2 (And.intro j3 j4)))))))))
  have na : Hid (w.heap.size ≠ w.heap.size + 1 + 1) := by show w.heap.size ≠ _; omega
  have nb : Hid (w.heap.size + 1 ≠ w.heap.size + 1 + 1) := by show w.heap.size + 1 ≠ _; omega
  clear i0 i1 i2 i3 i4 j0 j1 j2 j3 j4 hW0
  go_region_held3
    (fun w' => w'.cell? ⟨w.heap.size, 0, none⟩ = some (.bool s1) ∧ w'.cell? ⟨w.heap.size, 1, none⟩ = some (.int .u64 x1) ∧ w'.cell? ⟨w.heap.size, 2, none⟩ = some (.slice x2 x3 x4) ∧ w'.cell? ⟨w.heap.size, 3, none⟩ = some (.int .u64 y1) ∧ w'.cell? ⟨w.heap.size, 4, none⟩ = some (.slice y2 y3 y4) ∧ w'.cell? ⟨w.heap.size + 1, 0, none⟩ = some (.bool s2) ∧ w'.cell? ⟨w.heap.size + 1, 1, none⟩ = some (.int .u64 p1) ∧ w'.cell? ⟨w.heap.size + 1, 2, none⟩ = some (.slice p2 p3 p4) ∧ w'.cell? ⟨w.heap.size + 1, 3, none⟩ = some (.int .u64 r1) ∧ w'.cell? ⟨w.heap.size + 1, 4, none⟩ = some (.slice r2 r3 r4))
    ((repeat (first | with_reducible exact S0.out | with_reducible refine bare10_set5 ?_ na.out na.out na.out na.out na.out nb.out nb.out nb.out nb.out nb.out | with_reducible refine bare10_keep ?_ bb | with_reducible refine bare10_keep ?_ ba | with_reducible refine bare10_keep ?_ ((Below.refl _ _).drew))))
    (first
      | (go_at_call 75; refine (neg_calls _ _ s2 n2 d2 (HB.out.below (by repeat (first | with_reducible exact Below.refl _ _ | with_reducible refine Below.drew ?_ | with_reducible refine Below.then_below ?_ (alloc_below _ _))))).mono ?_; rintro e wa ⟨⟨ra, rfl, da⟩, ba⟩)
      | (go_at_call 28; refine (padd_calls _ _ _ s1 (!s2 && !decide (n2 = 0)) n1 d1 n2 d2 K (HA.out.below (by repeat (first | with_reducible exact Below.refl _ _ | with_reducible refine Below.drew ?_ | with_reducible refine Below.then_below ?_ (alloc_below _ _) | with_reducible refine Below.then_below ?_ ba))) da k1.out l1.out k2.out l2.out c1.out c2.out hK (TT.out.below (by repeat (first | with_reducible exact Below.refl _ _ | with_reducible refine Below.drew ?_ | with_reducible refine Below.then_below ?_ (alloc_below _ _) | with_reducible refine Below.then_below ?_ ba)))).mono ?_; rintro e wl ⟨⟨rl, rfl, ld⟩, bb⟩; obtain ⟨lb, nn, dd, hrd, hLow⟩ := Low.shape ld; obtain ⟨t1, t2, t3, t4, t5, t6, t7, t8, rfl, dn, dl⟩ := hrd.shape; have bwl : Below W0.heap.size W0 wl := (by repeat (first | with_reducible exact Below.refl _ _ | with_reducible refine Below.drew ?_ | with_reducible refine Below.then_below ?_ (alloc_below _ _) | with_reducible refine Below.then_below ?_ bb | with_reducible refine Below.then_below ?_ ba)); have R2 := kept_block R0.out bwl; obtain ⟨⟨o0, o1, o2, o3, o4⟩, of0, of1, of2, of3, of4⟩ := ratBox R2))
  go_wp2
  refine bodyPost_ret (v := .agg #[.bool lb, .int .u64 t1, .slice t2 t3 t4, .int .u64 t5, .slice t6 t7 t8]) (by simp [results, Tryz.results50, go_sem, o0, o1, o2, o3, o4]) rfl ?_
  have q := set5 wl (w.heap.size + 1 + 1) (.bool lb) (.int .u64 t1) (.slice t2 t3 t4) (.int .u64 t5) (.slice t6 t7 t8)
  exact ⟨⟨_, rfl, hLow.out _ _ (DenR.make dn dl R2 (nopair5 _ _ _ _ _ _ _ _ _) q)⟩, (B0.out.then_below bwl).then_grown q (by rintro g ⟨⟩; omega)⟩
theorem low_inv {w : World} {r : Value} {s : Bool} {n d : Nat} (hn : 0 < n) (hd : 0 < d) (h : Low w r s n d) : ∃ dd, DenR w r s n dd ∧ lowN dd = d := by
  unfold Low at h
  have hs : (s && !decide (n = 0)) = s := by rw [decide_eq_false (by omega)]; simp
  by_cases c : n = 0 ∨ d = 1
  · rw [if_pos c, hs] at h
    refine ⟨0, h, ?_⟩
    rcases c with c | c
    · omega
    · rw [c]; rfl
  · rw [if_neg c] at h
    exact ⟨d, h, lowN_of (by omega)⟩
theorem pmul_low (w : World) (va vb : Value) (s1 s2 : Bool) (n1 d1 n2 D2 K : Nat) (ha : DenR w va s1 n1 d1) (hb : ∃ d2, DenR w vb s2 n2 d2 ∧ lowN d2 = D2) (k1 : (n1 : Int) < M.BB ^ K) (l1 : ((lowN d1 : Nat) : Int) < M.BB ^ K) (k2 : (n2 : Int) < M.BB ^ K) (l2 : (D2 : Int) < M.BB ^ K) (c1 : Nat.gcd n1 (lowN d1) = 1) (c2 : Nat.gcd n2 D2 = 1) (hK : K ≤ 4398046511104) (hT : Tab w) :
    Calls Tryz.prog 33 #[va, vb] w fun e w' => (∃ r, e = .returned r ∧ Low w' r (s1 != s2) (n1 * n2 / Nat.gcd (n1 * n2) (lowN d1 * D2)) (lowN d1 * D2 / Nat.gcd (n1 * n2) (lowN d1 * D2))) ∧ Below w.heap.size w w' := by
  obtain ⟨d2, hb, rfl⟩ := hb
  exact pmul_calls w va vb s1 s2 n1 d1 n2 d2 K ha hb k1 l1 k2 l2 c1 c2 hK hT
set_option maxRecDepth 100000 in
set_option maxHeartbeats 8000000 in
theorem pquo_calls (w : World) (va vb : Value) (s1 s2 : Bool) (n1 d1 n2 d2 K : Nat) (ha : DenR w va s1 n1 d1) (hb : DenR w vb s2 n2 d2) (k1 : (n1 : Int) < M.BB ^ K) (l1 : ((lowN d1 : Nat) : Int) < M.BB ^ K) (k2 : (n2 : Int) < M.BB ^ K) (l2 : ((lowN d2 : Nat) : Int) < M.BB ^ K) (c1 : Nat.gcd n1 (lowN d1) = 1) (c2 : Nat.gcd n2 (lowN d2) = 1) (hz : 0 < n2) (hK : K ≤ 4398046511104) (hT : Tab w) :
    Calls Tryz.prog 32 #[va, vb] w fun e w' => (∃ r, e = .returned r ∧ Low w' r (s1 != s2) (n1 * lowN d2 / Nat.gcd (n1 * lowN d2) (lowN d1 * n2)) (lowN d1 * n2 / Nat.gcd (n1 * lowN d2) (lowN d1 * n2))) ∧ Below w.heap.size w w' := by
  have c3 := hide ((Nat.gcd_comm _ _).trans c2)
  have hz' := hide hz
  have ha' := hide ha
  have hb' := hide hb
  obtain ⟨x1, x2, x3, x4, y1, y2, y3, y4, rfl, a1, a2⟩ := ha
  obtain ⟨p1, p2, p3, p4, r1, r2, r3, r4, rfl, b1, b2⟩ := hb
  have z1 : (w.alloc (.cells #[.bool s1, .int .u64 x1, .slice x2 x3 x4, .int .u64 y1, .slice y2 y3 y4] 42)).heap.size = w.heap.size + 1 := by show (w.heap.push _).size = _; simp
  have z2 : ((w.alloc (.cells #[.bool s1, .int .u64 x1, .slice x2 x3 x4, .int .u64 y1, .slice y2 y3 y4] 42)).alloc (.cells #[.bool s2, .int .u64 p1, .slice p2 p3 p4, .int .u64 r1, .slice r2 r3 r4] 42)).heap.size = w.heap.size + 1 + 1 := by show ((w.heap.push _).push _).size = _; simp
  have P0 := kept_block (kept_block (heap_alloc_new w (.cells #[.bool s1, .int .u64 x1, .slice x2 x3 x4, .int .u64 y1, .slice y2 y3 y4] 42)) (alloc_below _ (.cells #[.bool s2, .int .u64 p1, .slice p2 p3 p4, .int .u64 r1, .slice r2 r3 r4] 42))) (alloc_below _ (.cells #[.bool false, .int .u64 0, .slice none 0 0, .int .u64 0, .slice none 0 0] 42))
  have Q0 := kept_block (heap_alloc_new (w.alloc (.cells #[.bool s1, .int .u64 x1, .slice x2 x3 x4, .int .u64 y1, .slice y2 y3 y4] 42)) (.cells #[.bool s2, .int .u64 p1, .slice p2 p3 p4, .int .u64 r1, .slice r2 r3 r4] 42)) (alloc_below _ (.cells #[.bool false, .int .u64 0, .slice none 0 0, .int .u64 0, .slice none 0 0] 42))
  have R0 := heap_alloc_new ((w.alloc (.cells #[.bool s1, .int .u64 x1, .slice x2 x3 x4, .int .u64 y1, .slice y2 y3 y4] 42)).alloc (.cells #[.bool s2, .int .u64 p1, .slice p2 p3 p4, .int .u64 r1, .slice r2 r3 r4] 42)) (.cells #[.bool false, .int .u64 0, .slice none 0 0, .int .u64 0, .slice none 0 0] 42)
  rw [z1] at Q0
  rw [z2] at R0
  have B0 := (alloc2_below w (.cells #[.bool s1, .int .u64 x1, .slice x2 x3 x4, .int .u64 y1, .slice y2 y3 y4] 42) (.cells #[.bool s2, .int .u64 p1, .slice p2 p3 p4, .int .u64 r1, .slice r2 r3 r4] 42)).then_below (alloc_below _ (.cells #[.bool false, .int .u64 0, .slice none 0 0, .int .u64 0, .slice none 0 0] 42))
  clear z1 z2
  obtain ⟨W0, hW0⟩ : ∃ W0, ((w.alloc (.cells #[.bool s1, .int .u64 x1, .slice x2 x3 x4, .int .u64 y1, .slice y2 y3 y4] 42)).alloc (.cells #[.bool s2, .int .u64 p1, .slice p2 p3 p4, .int .u64 r1, .slice r2 r3 r4] 42)).alloc (.cells #[.bool false, .int .u64 0, .slice none 0 0, .int .u64 0, .slice none 0 0] 42) = W0 := ⟨_, rfl⟩
  rw [hW0] at P0 Q0 R0 B0
  replace P0 := hide P0
  replace Q0 := hide Q0
  replace R0 := hide R0
  replace B0 := hide B0
  replace a1 := hide a1
  replace a2 := hide a2
  replace b1 := hide b1
  replace b2 := hide b2
  obtain ⟨⟨i0, i1, i2, i3, i4⟩, -⟩ := ratBox P0.out
  obtain ⟨⟨j0, j1, j2, j3, j4⟩, -⟩ := ratBox Q0.out
  replace k1 := hide k1
  replace k2 := hide k2
  replace l1 := hide l1
  replace l2 := hide l2
  replace c1 := hide c1
  replace c2 := hide c2
  have TT := hide (hT.below B0.out)
  clear hT
  have HA := hide (ha'.out.below B0.out)
  have HB := hide (hb'.out.below B0.out)
  have N1 := hide (b1.out.below B0.out)
  clear ha' hb' a1 a2 b1 b2 hz
  go_enter Tryz.func32, Tryz.ntmps32
  go_upto_region 1 with fail
  have S0 := hide (And.intro i0 (And.intro i1 (And.intro i2 (And.intro i3 (And.intro i4 (And.intro j0 (And.intro j1 (And.intro j2 (And.intro j3 j4)))))))))
  have na : Hid (w.heap.size ≠ w.heap.size + 1 + 1) := by show w.heap.size ≠ _; omega
  have nb : Hid (w.heap.size + 1 ≠ w.heap.size + 1 + 1) := by show w.heap.size + 1 ≠ _; omega
  clear i0 i1 i2 i3 i4 j0 j1 j2 j3 j4 hW0
  go_region_held3
    (fun w' => w'.cell? ⟨w.heap.size, 0, none⟩ = some (.bool s1) ∧ w'.cell? ⟨w.heap.size, 1, none⟩ = some (.int .u64 x1) ∧ w'.cell? ⟨w.heap.size, 2, none⟩ = some (.slice x2 x3 x4) ∧ w'.cell? ⟨w.heap.size, 3, none⟩ = some (.int .u64 y1) ∧ w'.cell? ⟨w.heap.size, 4, none⟩ = some (.slice y2 y3 y4) ∧ w'.cell? ⟨w.heap.size + 1, 0, none⟩ = some (.bool s2) ∧ w'.cell? ⟨w.heap.size + 1, 1, none⟩ = some (.int .u64 p1) ∧ w'.cell? ⟨w.heap.size + 1, 2, none⟩ = some (.slice p2 p3 p4) ∧ w'.cell? ⟨w.heap.size + 1, 3, none⟩ = some (.int .u64 r1) ∧ w'.cell? ⟨w.heap.size + 1, 4, none⟩ = some (.slice r2 r3 r4))
    ((repeat (first | with_reducible exact S0.out | with_reducible refine bare10_set5 ?_ na.out na.out na.out na.out na.out nb.out nb.out nb.out nb.out nb.out | with_reducible refine bare10_keep ?_ bb | with_reducible refine bare10_keep ?_ bc | with_reducible refine bare10_keep ?_ ba | with_reducible refine bare10_keep ?_ ((Below.refl _ _).drew))))
    (first
      | (go_at_call 48; refine (lower_low _ _ s2 n2 d2 (HB.out.below (by repeat (first | with_reducible exact Below.refl _ _ | with_reducible refine Below.drew ?_ | with_reducible refine Below.then_below ?_ (alloc_below _ _))))).mono ?_; rintro e wa ⟨⟨ra, rfl, da⟩, ba⟩)
      | (go_at_call 41; refine (lowest_calls _ s2 _ _ (lowN d2) n2 da (N1.out.below (by repeat (first | with_reducible exact Below.refl _ _ | with_reducible refine Below.drew ?_ | with_reducible refine Below.then_below ?_ (alloc_below _ _) | with_reducible refine Below.then_below ?_ ba)))).mono ?_; rintro e wc ⟨⟨rc, rfl, dc⟩, bc⟩; replace dc := hide (low_inv (lowN_pos d2) hz'.out dc))
      | (go_at_call 33; refine (pmul_low _ _ _ s1 s2 n1 d1 (lowN d2) n2 K (HA.out.below (by repeat (first | with_reducible exact Below.refl _ _ | with_reducible refine Below.drew ?_ | with_reducible refine Below.then_below ?_ (alloc_below _ _) | with_reducible refine Below.then_below ?_ bc | with_reducible refine Below.then_below ?_ ba))) dc.out k1.out l1.out l2.out k2.out c1.out c3.out hK (TT.out.below (by repeat (first | with_reducible exact Below.refl _ _ | with_reducible refine Below.drew ?_ | with_reducible refine Below.then_below ?_ (alloc_below _ _) | with_reducible refine Below.then_below ?_ bc | with_reducible refine Below.then_below ?_ ba)))).mono ?_; rintro e wl ⟨⟨rl, rfl, ld⟩, bb⟩; obtain ⟨lb, nn, dd, hrd, hLow⟩ := Low.shape ld; obtain ⟨t1, t2, t3, t4, t5, t6, t7, t8, rfl, dn, dl⟩ := hrd.shape; have bwl : Below W0.heap.size W0 wl := (by repeat (first | with_reducible exact Below.refl _ _ | with_reducible refine Below.drew ?_ | with_reducible refine Below.then_below ?_ (alloc_below _ _) | with_reducible refine Below.then_below ?_ bb | with_reducible refine Below.then_below ?_ bc | with_reducible refine Below.then_below ?_ ba)); have R2 := kept_block R0.out bwl; obtain ⟨⟨o0, o1, o2, o3, o4⟩, of0, of1, of2, of3, of4⟩ := ratBox R2))
  go_wp2
  refine bodyPost_ret (v := .agg #[.bool lb, .int .u64 t1, .slice t2 t3 t4, .int .u64 t5, .slice t6 t7 t8]) (by simp [results, Tryz.results32, go_sem, o0, o1, o2, o3, o4]) rfl ?_
  have q := set5 wl (w.heap.size + 1 + 1) (.bool lb) (.int .u64 t1) (.slice t2 t3 t4) (.int .u64 t5) (.slice t6 t7 t8)
  exact ⟨⟨_, rfl, hLow.out _ _ (DenR.make dn dl R2 (nopair5 _ _ _ _ _ _ _ _ _) q)⟩, (B0.out.then_below bwl).then_grown q (by rintro g ⟨⟩; omega)⟩
end Go.Proofs.YtnpdieolahlpoaaGreatDoor
