/- Laid together of: RatMul, RatMul2. -/
import Derived.Test.YtlepicdpelkmlaaGreatDoorMulB
import Derived.Test.YtlepicdpelkmlaaGreatDoorAll8
import Derived.Test.YtlepicdpelkmlaaGreatDoorQAll
/- ==== RatMul ==== -/
namespace Go.Proofs.YtlepicdpelkmlaaGreatDoor
open Go.RowKit
set_option linter.unusedVariables false
set_option maxRecDepth 100000 in
set_option maxHeartbeats 4000000 in
theorem pmul_whole (w : World) (va vb : Value) (s1 s2 : Bool) (n1 d1 n2 d2 K : Nat) (ha : DenR w va s1 n1 d1) (hb : DenR w vb s2 n2 d2) (h1 : d1 = 0) (h2 : d2 = 0) (k1 : (n1 : Int) < M.BB ^ K) (k2 : (n2 : Int) < M.BB ^ K) (hK : K ≤ 4398046511104) (z1 : n1 ≠ 0) (z2 : n2 ≠ 0) :
    Calls Tryz.prog 58 #[va, vb] w fun e w' => (∃ r, e = .returned r ∧ DenR w' r ((s1 != s2) && !decide (n1 * n2 = 0)) (n1 * n2) 0) ∧ Below w.heap.size w w' := by
  have ha' := hide ha
  have hb' := hide hb
  obtain ⟨x1, x2, x3, x4, y1, y2, y3, y4, rfl, a1, a2⟩ := ha
  obtain ⟨p1, p2, p3, p4, r1, r2, r3, r4, rfl, b1, b2⟩ := hb
  subst h1
  subst h2
  have z1 : (w.alloc (.cells #[.bool s1, .int .u64 x1, .slice x2 x3 x4, .int .u64 y1, .slice y2 y3 y4] 92)).heap.size = w.heap.size + 1 := by show (w.heap.push _).size = _; simp
  have z2 : ((w.alloc (.cells #[.bool s1, .int .u64 x1, .slice x2 x3 x4, .int .u64 y1, .slice y2 y3 y4] 92)).alloc (.cells #[.bool s2, .int .u64 p1, .slice p2 p3 p4, .int .u64 r1, .slice r2 r3 r4] 92)).heap.size = w.heap.size + 1 + 1 := by show ((w.heap.push _).push _).size = _; simp
  have P0 := kept_block (kept_block (heap_alloc_new w (.cells #[.bool s1, .int .u64 x1, .slice x2 x3 x4, .int .u64 y1, .slice y2 y3 y4] 92)) (alloc_below _ (.cells #[.bool s2, .int .u64 p1, .slice p2 p3 p4, .int .u64 r1, .slice r2 r3 r4] 92))) (alloc_below _ (.cells #[.bool false, .int .u64 0, .slice none 0 0, .int .u64 0, .slice none 0 0] 92))
  have Q0 := kept_block (heap_alloc_new (w.alloc (.cells #[.bool s1, .int .u64 x1, .slice x2 x3 x4, .int .u64 y1, .slice y2 y3 y4] 92)) (.cells #[.bool s2, .int .u64 p1, .slice p2 p3 p4, .int .u64 r1, .slice r2 r3 r4] 92)) (alloc_below _ (.cells #[.bool false, .int .u64 0, .slice none 0 0, .int .u64 0, .slice none 0 0] 92))
  have R0 := heap_alloc_new ((w.alloc (.cells #[.bool s1, .int .u64 x1, .slice x2 x3 x4, .int .u64 y1, .slice y2 y3 y4] 92)).alloc (.cells #[.bool s2, .int .u64 p1, .slice p2 p3 p4, .int .u64 r1, .slice r2 r3 r4] 92)) (.cells #[.bool false, .int .u64 0, .slice none 0 0, .int .u64 0, .slice none 0 0] 92)
  rw [z1] at Q0
  rw [z2] at R0
  have B0 := (alloc2_below w (.cells #[.bool s1, .int .u64 x1, .slice x2 x3 x4, .int .u64 y1, .slice y2 y3 y4] 92) (.cells #[.bool s2, .int .u64 p1, .slice p2 p3 p4, .int .u64 r1, .slice r2 r3 r4] 92)).then_below (alloc_below _ (.cells #[.bool false, .int .u64 0, .slice none 0 0, .int .u64 0, .slice none 0 0] 92))
  clear z1 z2
  obtain ⟨W0, hW0⟩ : ∃ W0, ((w.alloc (.cells #[.bool s1, .int .u64 x1, .slice x2 x3 x4, .int .u64 y1, .slice y2 y3 y4] 92)).alloc (.cells #[.bool s2, .int .u64 p1, .slice p2 p3 p4, .int .u64 r1, .slice r2 r3 r4] 92)).alloc (.cells #[.bool false, .int .u64 0, .slice none 0 0, .int .u64 0, .slice none 0 0] 92) = W0 := ⟨_, rfl⟩
  rw [hW0] at P0 Q0 R0 B0
  replace P0 := hide P0
  replace Q0 := hide Q0
  replace R0 := hide R0
  replace B0 := hide B0
  replace a1 := hide a1
  replace a2 := hide a2
  replace b1 := hide b1
  replace b2 := hide b2
  replace k1 := hide k1
  replace k2 := hide k2
  obtain ⟨⟨i0, i1, i2, i3, i4⟩, -⟩ := ratBox P0.out
  obtain ⟨⟨j0, j1, j2, j3, j4⟩, -⟩ := ratBox Q0.out
  have qz1 := isZero_calls W0 _ n1 (a1.out.below B0.out)
  have qz2 := fun W (hW : Below W0.heap.size W0 W) => isZero_calls W _ n2 ((b1.out.below B0.out).below hW)
  rw [decide_eq_false z1] at qz1
  simp only [decide_eq_false z2] at qz2
  replace qz1 := hide qz1
  replace qz2 := hide qz2
  go_enter Tryz.func58, Tryz.ntmps58
  go_upto_region 4 with (first
    | (go_at_call_of 57 (Value.agg #[.int .u64 x1, .slice x2 x3 x4]); refine qz1.out.mono ?_; rintro e wz ⟨rfl, bz⟩; obtain ⟨⟨zq0, zq1, zq2, zq3, zq4⟩, -⟩ := ratBox (kept_block Q0.out bz); replace bz := hide bz)
    | (go_at_call_of 57 (Value.agg #[.int .u64 p1, .slice p2 p3 p4]); refine (qz2.out _ bz.out).mono ?_; rintro e W9 ⟨rfl, by9⟩; replace by9 := hide (bz.out.then_below by9)))
  clear i0 i1 i2 i3 i4 j0 j1 j2 j3 j4 zq0 zq1 zq2 zq3 zq4 hW0 qz1 qz2
  replace P0 := hide (kept_block P0.out by9.out)
  replace Q0 := hide (kept_block Q0.out by9.out)
  replace R0 := hide (kept_block R0.out by9.out)
  replace B0 := hide (B0.out.then_below by9.out)
  clear by9 bz
  obtain ⟨⟨i0, i1, i2, i3, i4⟩, -⟩ := ratBox P0.out
  obtain ⟨⟨j0, j1, j2, j3, j4⟩, -⟩ := ratBox Q0.out
  go_wp2_with (first
    | (go_at_call_of 62 (Value.agg #[.bool s1, .int .u64 x1, .slice x2 x3 x4, .int .u64 y1, .slice y2 y3 y4]); refine (isWhole_calls _ _ s1 n1 0 (ha'.out.below B0.out)).mono ?_; rintro e wa ⟨rfl, ba⟩; obtain ⟨⟨t0, t1, t2, t3, t4⟩, -⟩ := ratBox (kept_block Q0.out ba); replace ba := hide ba)
    | (go_at_call_of 62 (Value.agg #[.bool s2, .int .u64 p1, .slice p2 p3 p4, .int .u64 r1, .slice r2 r3 r4]); refine (isWhole_calls _ _ s2 n2 0 ((hb'.out.below B0.out).below ba.out)).mono ?_; rintro e wb ⟨rfl, bb⟩; replace bb := hide (ba.out.then_below bb); obtain ⟨⟨u0, u1, u2, u3, u4⟩, -⟩ := ratBox (kept_block P0.out bb.out); obtain ⟨⟨v0, v1, v2, v3, v4⟩, -⟩ := ratBox (kept_block Q0.out bb.out))
    | (go_at_call 75; refine (natMul_calls _ _ _ n1 n2 K ((a1.out.below B0.out).below bb.out) ((b1.out.below B0.out).below bb.out) k1.out k2.out hK).mono ?_; rintro e wc ⟨⟨rc, rfl, nc⟩, bc⟩; obtain ⟨c1, c2, c3, c4, rfl⟩ := nc.shape2; replace nc := hide nc; replace bc := hide (bb.out.then_below bc))
    | (go_at_call 71; refine (whole_calls _ (s1 != s2) _ (n1 * n2) nc.out).mono ?_; rintro e wd ⟨⟨rd, rfl, md⟩, bd⟩; obtain ⟨e1, e2, e3, e4, g1, g2, g3, g4, rfl, m1, m2⟩ := md; have R1 := hide (kept_block R0.out (bc.out.then_below bd)); obtain ⟨⟨w0, w1, w2, w3, w4⟩, f0, f1, f2, f3, f4⟩ := ratBox R1.out; replace m1 := hide m1; replace m2 := hide m2; replace bd := hide (bc.out.then_below bd)))
  refine bodyPost_ret (v := .agg #[.bool ((s1 != s2) && !decide (n1 * n2 = 0)), .int .u64 e1, .slice e2 e3 e4, .int .u64 g1, .slice g2 g3 g4]) (by simp [results, Tryz.results58, go_sem, w0, w1, w2, w3, w4]) rfl ?_
  have q := set5 wd (w.heap.size + 1 + 1) (.bool ((s1 != s2) && !decide (n1 * n2 = 0))) (.int .u64 e1) (.slice e2 e3 e4) (.int .u64 g1) (.slice g2 g3 g4)
  exact ⟨⟨_, rfl, DenR.make m1.out m2.out R1.out (nopair5 _ _ _ _ _ _ _ _ _) q⟩, (B0.out.then_below bd.out).then_grown q (by rintro g ⟨⟩; omega)⟩
set_option maxRecDepth 100000 in
set_option maxHeartbeats 4000000 in
theorem pmul_zero (w : World) (va vb : Value) (s1 s2 : Bool) (n1 d1 n2 d2 : Nat) (ha : DenR w va s1 n1 d1) (hb : DenR w vb s2 n2 d2) (hz : n1 = 0 ∨ n2 = 0) :
    Calls Tryz.prog 58 #[va, vb] w fun e w' => (∃ r, e = .returned r ∧ DenR w' r false 0 0) ∧ Below w.heap.size w w' := by
  have ha' := hide ha
  have hb' := hide hb
  obtain ⟨x1, x2, x3, x4, y1, y2, y3, y4, rfl, a1, a2⟩ := ha
  obtain ⟨p1, p2, p3, p4, r1, r2, r3, r4, rfl, b1, b2⟩ := hb
  have z1 : (w.alloc (.cells #[.bool s1, .int .u64 x1, .slice x2 x3 x4, .int .u64 y1, .slice y2 y3 y4] 92)).heap.size = w.heap.size + 1 := by show (w.heap.push _).size = _; simp
  have z2 : ((w.alloc (.cells #[.bool s1, .int .u64 x1, .slice x2 x3 x4, .int .u64 y1, .slice y2 y3 y4] 92)).alloc (.cells #[.bool s2, .int .u64 p1, .slice p2 p3 p4, .int .u64 r1, .slice r2 r3 r4] 92)).heap.size = w.heap.size + 1 + 1 := by show ((w.heap.push _).push _).size = _; simp
  have P0 := kept_block (kept_block (heap_alloc_new w (.cells #[.bool s1, .int .u64 x1, .slice x2 x3 x4, .int .u64 y1, .slice y2 y3 y4] 92)) (alloc_below _ (.cells #[.bool s2, .int .u64 p1, .slice p2 p3 p4, .int .u64 r1, .slice r2 r3 r4] 92))) (alloc_below _ (.cells #[.bool false, .int .u64 0, .slice none 0 0, .int .u64 0, .slice none 0 0] 92))
  have Q0 := kept_block (heap_alloc_new (w.alloc (.cells #[.bool s1, .int .u64 x1, .slice x2 x3 x4, .int .u64 y1, .slice y2 y3 y4] 92)) (.cells #[.bool s2, .int .u64 p1, .slice p2 p3 p4, .int .u64 r1, .slice r2 r3 r4] 92)) (alloc_below _ (.cells #[.bool false, .int .u64 0, .slice none 0 0, .int .u64 0, .slice none 0 0] 92))
  have R0 := heap_alloc_new ((w.alloc (.cells #[.bool s1, .int .u64 x1, .slice x2 x3 x4, .int .u64 y1, .slice y2 y3 y4] 92)).alloc (.cells #[.bool s2, .int .u64 p1, .slice p2 p3 p4, .int .u64 r1, .slice r2 r3 r4] 92)) (.cells #[.bool false, .int .u64 0, .slice none 0 0, .int .u64 0, .slice none 0 0] 92)
  rw [z1] at Q0
  rw [z2] at R0
  have B0 := (alloc2_below w (.cells #[.bool s1, .int .u64 x1, .slice x2 x3 x4, .int .u64 y1, .slice y2 y3 y4] 92) (.cells #[.bool s2, .int .u64 p1, .slice p2 p3 p4, .int .u64 r1, .slice r2 r3 r4] 92)).then_below (alloc_below _ (.cells #[.bool false, .int .u64 0, .slice none 0 0, .int .u64 0, .slice none 0 0] 92))
  clear z1 z2
  obtain ⟨W0, hW0⟩ : ∃ W0, ((w.alloc (.cells #[.bool s1, .int .u64 x1, .slice x2 x3 x4, .int .u64 y1, .slice y2 y3 y4] 92)).alloc (.cells #[.bool s2, .int .u64 p1, .slice p2 p3 p4, .int .u64 r1, .slice r2 r3 r4] 92)).alloc (.cells #[.bool false, .int .u64 0, .slice none 0 0, .int .u64 0, .slice none 0 0] 92) = W0 := ⟨_, rfl⟩
  rw [hW0] at P0 Q0 R0 B0
  replace P0 := hide P0
  replace Q0 := hide Q0
  replace R0 := hide R0
  replace B0 := hide B0
  replace a1 := hide a1
  replace a2 := hide a2
  replace b1 := hide b1
  replace b2 := hide b2
  obtain ⟨⟨i0, i1, i2, i3, i4⟩, -⟩ := ratBox P0.out
  obtain ⟨⟨j0, j1, j2, j3, j4⟩, -⟩ := ratBox Q0.out
  have qz1 := isZero_calls W0 _ n1 (a1.out.below B0.out)
  have qz2 := fun W (hW : Below W0.heap.size W0 W) => isZero_calls W _ n2 ((b1.out.below B0.out).below hW)
  by_cases z1 : n1 = 0
  · rw [decide_eq_true z1] at qz1
    replace qz1 := hide qz1
    clear qz2 hz
    go_enter Tryz.func58, Tryz.ntmps58
    go_wp2_with (go_at_call 57; refine qz1.out.mono ?_; rintro e wz ⟨rfl, bz⟩; obtain ⟨⟨zq0, zq1, zq2, zq3, zq4⟩, zf0, zf1, zf2, zf3, zf4⟩ := ratBox (kept_block R0.out bz); have R1 := hide (kept_block R0.out bz); replace bz := hide bz)
    refine bodyPost_ret (v := .agg #[.bool false, .int .u64 0, .slice none 0 0, .int .u64 0, .slice none 0 0]) (by simp [results, Tryz.results58, go_sem, zq0, zq1, zq2, zq3, zq4]) rfl ?_
    have q := set5 wz (w.heap.size + 1 + 1) (.bool false) (.int .u64 0) (.slice none 0 0) (.int .u64 0) (.slice none 0 0)
    exact ⟨⟨_, rfl, DenR.make (den_word _ 0 (by decide)) (den_word _ 0 (by decide)) R1.out (nopair5 _ _ _ _ _ _ _ _ _) q⟩, (B0.out.then_below bz.out).then_grown q (by rintro g ⟨⟩; omega)⟩
  · have z2 : n2 = 0 := hz.resolve_left z1
    rw [decide_eq_false z1] at qz1
    simp only [decide_eq_true z2] at qz2
    replace qz1 := hide qz1
    replace qz2 := hide qz2
    clear hz z1 z2
    go_enter Tryz.func58, Tryz.ntmps58
    go_wp2_with (first
      | (go_at_call_of 57 (Value.agg #[.int .u64 x1, .slice x2 x3 x4]); refine qz1.out.mono ?_; rintro e wy ⟨rfl, by9⟩; obtain ⟨⟨zq0, zq1, zq2, zq3, zq4⟩, -⟩ := ratBox (kept_block Q0.out by9); replace by9 := hide by9)
      | (go_at_call_of 57 (Value.agg #[.int .u64 p1, .slice p2 p3 p4]); refine (qz2.out _ by9.out).mono ?_; rintro e wz ⟨rfl, bz⟩; replace bz := hide (by9.out.then_below bz); have R1 := hide (kept_block R0.out bz.out); obtain ⟨⟨zr0, zr1, zr2, zr3, zr4⟩, zf0, zf1, zf2, zf3, zf4⟩ := ratBox R1.out))
    refine bodyPost_ret (v := .agg #[.bool false, .int .u64 0, .slice none 0 0, .int .u64 0, .slice none 0 0]) (by simp [results, Tryz.results58, go_sem, zr0, zr1, zr2, zr3, zr4]) rfl ?_
    have q := set5 wz (w.heap.size + 1 + 1) (.bool false) (.int .u64 0) (.slice none 0 0) (.int .u64 0) (.slice none 0 0)
    exact ⟨⟨_, rfl, DenR.make (den_word _ 0 (by decide)) (den_word _ 0 (by decide)) R1.out (nopair5 _ _ _ _ _ _ _ _ _) q⟩, (B0.out.then_below bz.out).then_grown q (by rintro g ⟨⟩; omega)⟩
end Go.Proofs.YtlepicdpelkmlaaGreatDoor
/- ==== RatMul2 ==== -/
namespace Go.Proofs.YtlepicdpelkmlaaGreatDoor
open Go.RowKit
set_option linter.unusedVariables false
set_option maxRecDepth 100000 in
set_option maxHeartbeats 32000000 in
theorem pmul_frac (w : World) (va vb : Value) (s1 s2 : Bool) (n1 d1 n2 d2 K : Nat) (ha : DenR w va s1 n1 d1) (hb : DenR w vb s2 n2 d2) (hd : ¬ (d1 = 0 ∧ d2 = 0)) (k1 : (n1 : Int) < M.BB ^ K) (l1 : ((lowN d1 : Nat) : Int) < M.BB ^ K) (k2 : (n2 : Int) < M.BB ^ K) (l2 : ((lowN d2 : Nat) : Int) < M.BB ^ K) (hK : K ≤ 4398046511104) (hT : Tab w) (z1 : n1 ≠ 0) (z2 : n2 ≠ 0) :
    Calls Tryz.prog 58 #[va, vb] w fun e w' => (∃ r, e = .returned r ∧ Low w' r (s1 != s2) (n1 / Nat.gcd n1 (lowN d2) * (n2 / Nat.gcd n2 (lowN d1))) (lowN d1 / Nat.gcd n2 (lowN d1) * (lowN d2 / Nat.gcd n1 (lowN d2)))) ∧ Below w.heap.size w w' := by
  have ha' := hide ha
  have hb' := hide hb
  obtain ⟨x1, x2, x3, x4, y1, y2, y3, y4, rfl, a1, a2⟩ := ha
  obtain ⟨p1, p2, p3, p4, r1, r2, r3, r4, rfl, b1, b2⟩ := hb
  have z1 : (w.alloc (.cells #[.bool s1, .int .u64 x1, .slice x2 x3 x4, .int .u64 y1, .slice y2 y3 y4] 92)).heap.size = w.heap.size + 1 := by show (w.heap.push _).size = _; simp
  have z2 : ((w.alloc (.cells #[.bool s1, .int .u64 x1, .slice x2 x3 x4, .int .u64 y1, .slice y2 y3 y4] 92)).alloc (.cells #[.bool s2, .int .u64 p1, .slice p2 p3 p4, .int .u64 r1, .slice r2 r3 r4] 92)).heap.size = w.heap.size + 1 + 1 := by show ((w.heap.push _).push _).size = _; simp
  have P0 := kept_block (kept_block (heap_alloc_new w (.cells #[.bool s1, .int .u64 x1, .slice x2 x3 x4, .int .u64 y1, .slice y2 y3 y4] 92)) (alloc_below _ (.cells #[.bool s2, .int .u64 p1, .slice p2 p3 p4, .int .u64 r1, .slice r2 r3 r4] 92))) (alloc_below _ (.cells #[.bool false, .int .u64 0, .slice none 0 0, .int .u64 0, .slice none 0 0] 92))
  have Q0 := kept_block (heap_alloc_new (w.alloc (.cells #[.bool s1, .int .u64 x1, .slice x2 x3 x4, .int .u64 y1, .slice y2 y3 y4] 92)) (.cells #[.bool s2, .int .u64 p1, .slice p2 p3 p4, .int .u64 r1, .slice r2 r3 r4] 92)) (alloc_below _ (.cells #[.bool false, .int .u64 0, .slice none 0 0, .int .u64 0, .slice none 0 0] 92))
  have R0 := heap_alloc_new ((w.alloc (.cells #[.bool s1, .int .u64 x1, .slice x2 x3 x4, .int .u64 y1, .slice y2 y3 y4] 92)).alloc (.cells #[.bool s2, .int .u64 p1, .slice p2 p3 p4, .int .u64 r1, .slice r2 r3 r4] 92)) (.cells #[.bool false, .int .u64 0, .slice none 0 0, .int .u64 0, .slice none 0 0] 92)
  rw [z1] at Q0
  rw [z2] at R0
  have B0 := (alloc2_below w (.cells #[.bool s1, .int .u64 x1, .slice x2 x3 x4, .int .u64 y1, .slice y2 y3 y4] 92) (.cells #[.bool s2, .int .u64 p1, .slice p2 p3 p4, .int .u64 r1, .slice r2 r3 r4] 92)).then_below (alloc_below _ (.cells #[.bool false, .int .u64 0, .slice none 0 0, .int .u64 0, .slice none 0 0] 92))
  clear z1 z2
  obtain ⟨W0, hW0⟩ : ∃ W0, ((w.alloc (.cells #[.bool s1, .int .u64 x1, .slice x2 x3 x4, .int .u64 y1, .slice y2 y3 y4] 92)).alloc (.cells #[.bool s2, .int .u64 p1, .slice p2 p3 p4, .int .u64 r1, .slice r2 r3 r4] 92)).alloc (.cells #[.bool false, .int .u64 0, .slice none 0 0, .int .u64 0, .slice none 0 0] 92) = W0 := ⟨_, rfl⟩
  rw [hW0] at P0 Q0 R0 B0
  have TT := hide hT
  have hg1 : Nat.gcd n1 (lowN d2) ≠ 0 := Nat.ne_of_gt (Nat.gcd_pos_of_pos_right _ (lowN_pos d2))
  have hg2 : Nat.gcd n2 (lowN d1) ≠ 0 := Nat.ne_of_gt (Nat.gcd_pos_of_pos_right _ (lowN_pos d1))
  replace hg1 := hide hg1
  replace hg2 := hide hg2
  clear hT
  replace P0 := hide P0
  replace Q0 := hide Q0
  replace R0 := hide R0
  replace B0 := hide B0
  replace a1 := hide a1
  replace a2 := hide a2
  replace b1 := hide b1
  replace b2 := hide b2
  replace k1 := hide k1
  replace k2 := hide k2
  replace l1 := hide l1
  replace l2 := hide l2
  obtain ⟨⟨i0, i1, i2, i3, i4⟩, -⟩ := ratBox P0.out
  obtain ⟨⟨j0, j1, j2, j3, j4⟩, -⟩ := ratBox Q0.out
  have HD := hide hd
  clear hd
  have qz1 := isZero_calls W0 _ n1 (a1.out.below B0.out)
  have qz2 := fun W (hW : Below W0.heap.size W0 W) => isZero_calls W _ n2 ((b1.out.below B0.out).below hW)
  rw [decide_eq_false z1] at qz1
  simp only [decide_eq_false z2] at qz2
  replace qz1 := hide qz1
  replace qz2 := hide qz2
  go_enter Tryz.func58, Tryz.ntmps58
  go_upto_region 4 with (first
    | (go_at_call_of 57 (Value.agg #[.int .u64 x1, .slice x2 x3 x4]); refine qz1.out.mono ?_; rintro e wz ⟨rfl, bz⟩; obtain ⟨⟨zq0, zq1, zq2, zq3, zq4⟩, -⟩ := ratBox (kept_block Q0.out bz); replace bz := hide bz)
    | (go_at_call_of 57 (Value.agg #[.int .u64 p1, .slice p2 p3 p4]); refine (qz2.out _ bz.out).mono ?_; rintro e W9 ⟨rfl, by9⟩; replace by9 := hide (bz.out.then_below by9)))
  clear i0 i1 i2 i3 i4 j0 j1 j2 j3 j4 zq0 zq1 zq2 zq3 zq4 hW0 qz1 qz2 z1 z2
  replace P0 := hide (kept_block P0.out by9.out)
  replace Q0 := hide (kept_block Q0.out by9.out)
  replace R0 := hide (kept_block R0.out by9.out)
  replace B0 := hide (B0.out.then_below by9.out)
  clear by9 bz
  obtain ⟨⟨i0, i1, i2, i3, i4⟩, -⟩ := ratBox P0.out
  obtain ⟨⟨j0, j1, j2, j3, j4⟩, -⟩ := ratBox Q0.out
  go_cut [26] (fun sx wx => sx = .bool false ∧ Hid (Below W9.heap.size W9 wx))
  case first =>
    by_cases h1 : d1 = 0
    · have h2 : d2 ≠ 0 := fun e => HD.out ⟨h1, e⟩
      have q1 := hide (isWhole_calls W9 _ s1 n1 d1 (ha'.out.below B0.out))
      have q2 := hide (fun W (hW : Below W9.heap.size W9 W) => isWhole_calls W _ s2 n2 d2 ((hb'.out.below B0.out).below hW))
      rw [decide_eq_true h1] at q1
      rw [decide_eq_false h2] at q2
      clear h1 h2
      go_wp2_with (first
        | (go_at_call_of 62 (Value.agg #[.bool s1, .int .u64 x1, .slice x2 x3 x4, .int .u64 y1, .slice y2 y3 y4]); refine q1.out.mono ?_; rintro e wa ⟨rfl, ba⟩; obtain ⟨⟨t0, t1, t2, t3, t4⟩, -⟩ := ratBox (kept_block Q0.out ba); replace ba := hide ba)
        | (go_at_call_of 62 (Value.agg #[.bool s2, .int .u64 p1, .slice p2 p3 p4, .int .u64 r1, .slice r2 r3 r4]); refine (q2.out _ ba.out).mono ?_; rintro e wb ⟨rfl, bb⟩; replace bb := hide (ba.out.then_below bb)))
      go_meet
      exact ⟨rfl, bb⟩
    · have q1 := hide (isWhole_calls W9 _ s1 n1 d1 (ha'.out.below B0.out))
      rw [decide_eq_false h1] at q1
      clear h1
      go_wp2_with (first
        | (go_at_call_of 62 (Value.agg #[.bool s1, .int .u64 x1, .slice x2 x3 x4, .int .u64 y1, .slice y2 y3 y4]); refine q1.out.mono ?_; rintro e wa ⟨rfl, ba⟩; replace ba := hide ba))
      go_meet
      exact ⟨rfl, ba⟩
  case rest =>
  obtain ⟨rfl, B1⟩ := hcut
  rename World => W1
  clear i0 i1 i2 i3 i4 j0 j1 j2 j3 j4 HD
  have BW := hide (B0.out.then_below B1.out)
  have P1 := hide (kept_block P0.out B1.out)
  have Q1 := hide (kept_block Q0.out B1.out)
  have R1 := hide (kept_block R0.out B1.out)
  have HA := hide (ha'.out.below BW.out)
  have HB := hide (hb'.out.below BW.out)
  have A1 := hide (a1.out.below BW.out)
  have N1 := hide (b1.out.below BW.out)
  have T1 := hide (TT.out.below BW.out)
  clear P0 Q0 R0 B0 B1 ha' hb' a1 a2 b1 b2 TT
  go_upto_region 6 with fail
  obtain ⟨⟨i0, i1, i2, i3, i4⟩, -⟩ := ratBox P1.out
  obtain ⟨⟨j0, j1, j2, j3, j4⟩, -⟩ := ratBox Q1.out
  have S0 := hide (And.intro i0 (And.intro i1 (And.intro i2 (And.intro i3 (And.intro i4 (And.intro j0 (And.intro j1 (And.intro j2 (And.intro j3 (And.intro j4 (Below.refl W1.heap.size W1)))))))))))
  clear i0 i1 i2 i3 i4 j0 j1 j2 j3 j4
  go_cut [6, 7] (fun sx sy wx => ∃ (gx gy : Nat) (q1 : Int) (q2 : Option Addr) (q3 q4 : Nat) (r1 : Int) (r2 : Option Addr) (r3 r4 : Nat), sx = .pointer (some ⟨gx, 0, none⟩) ∧ sy = .pointer (some ⟨gy, 0, none⟩) ∧ Hid (TwoB W1 wx gx gy q1 q2 q3 q4 r1 r2 r3 r4 (lowN d1) (lowN d2)))
  case first =>
    go_region_held3
      (fun w' => w'.cell? ⟨w.heap.size, 0, none⟩ = some (.bool s1) ∧ w'.cell? ⟨w.heap.size, 1, none⟩ = some (.int .u64 x1) ∧ w'.cell? ⟨w.heap.size, 2, none⟩ = some (.slice x2 x3 x4) ∧ w'.cell? ⟨w.heap.size, 3, none⟩ = some (.int .u64 y1) ∧ w'.cell? ⟨w.heap.size, 4, none⟩ = some (.slice y2 y3 y4) ∧ w'.cell? ⟨w.heap.size + 1, 0, none⟩ = some (.bool s2) ∧ w'.cell? ⟨w.heap.size + 1, 1, none⟩ = some (.int .u64 p1) ∧ w'.cell? ⟨w.heap.size + 1, 2, none⟩ = some (.slice p2 p3 p4) ∧ w'.cell? ⟨w.heap.size + 1, 3, none⟩ = some (.int .u64 r1) ∧ w'.cell? ⟨w.heap.size + 1, 4, none⟩ = some (.slice r2 r3 r4) ∧ Below W1.heap.size W1 w')
      ((refine cells10_keep (w := W1) S0.out ?_; repeat (first | with_reducible exact Below.refl _ _ | with_reducible refine Below.drew ?_ | with_reducible refine Below.then_below ?_ (alloc_below _ _) | with_reducible refine Below.then_below ?_ ba | with_reducible refine Below.then_below ?_ bb | (with_reducible refine Below.then_grown ?_ (box_grown _ _ _ _) (by rintro g ⟨⟩; first | exact Nat.le_refl _ | omega)))))
      (first
        | (go_at_call_of 60 (Value.agg #[.bool s1, .int .u64 x1, .slice x2 x3 x4, .int .u64 y1, .slice y2 y3 y4]); refine (lower_low _ _ s1 n1 d1 (HA.out.below (by repeat (first | with_reducible exact Below.refl _ _ | with_reducible refine Below.drew ?_ | with_reducible refine Below.then_below ?_ (alloc_below _ _))))).mono ?_; rintro e wa ⟨⟨ra, rfl, da⟩, ba⟩; obtain ⟨u1, u2, u3, u4, rfl⟩ := da.shape2; have Ba : Below W1.heap.size W1 wa := (by repeat (first | with_reducible exact Below.refl _ _ | with_reducible refine Below.drew ?_ | with_reducible refine Below.then_below ?_ (alloc_below _ _) | with_reducible refine Below.then_below ?_ ba)); have sa : W1.heap.size ≤ wa.heap.size := Ba.size; (first | (have AZa0 : wa.heap[W1.heap.size]? = some (.cells #[.int .u64 0, .slice none 0 0] 90 (0, 0)) := kept_block (by first | exact heap_alloc_new W1 (.cells #[.int .u64 0, .slice none 0 0] 90) | exact (two_new W1 (.cells #[.int .u64 0, .slice none 0 0] 90) (.cells #[.int .u64 0, .slice none 0 0] 90)).1) ba; have lz0 : W1.heap.size < wa.heap.size := (Array.getElem?_eq_some_iff.1 AZa0).1) | skip); (first | (have AZa1 : wa.heap[W1.heap.size + 1]? = some (.cells #[.int .u64 0, .slice none 0 0] 90 (0, 0)) := kept_block (by exact (two_new W1 (.cells #[.int .u64 0, .slice none 0 0] 90) (.cells #[.int .u64 0, .slice none 0 0] 90)).2.1) ba; have lz1 : W1.heap.size + 1 < wa.heap.size := (Array.getElem?_eq_some_iff.1 AZa1).1) | skip))
        | (go_at_call_of 60 (Value.agg #[.bool s2, .int .u64 p1, .slice p2 p3 p4, .int .u64 r1, .slice r2 r3 r4]); refine (lower_low _ _ s2 n2 d2 (HB.out.below (by repeat (first | with_reducible exact Below.refl _ _ | with_reducible refine Below.drew ?_ | with_reducible refine Below.then_below ?_ (alloc_below _ _) | with_reducible refine Below.then_below ?_ ba)))).mono ?_; rintro e wb ⟨⟨rb, rfl, db⟩, bb⟩; obtain ⟨v1, v2, v3, v4, rfl⟩ := db.shape2; have BAB : Below wa.heap.size wa wb := (by repeat (first | with_reducible exact Below.refl _ _ | with_reducible refine Below.drew ?_ | with_reducible refine Below.then_below ?_ (alloc_below _ _) | with_reducible refine Below.then_below ?_ bb)); have bw : Below W1.heap.size W1 wb := Ba.then_below BAB; have dq := da.below BAB; have sb : wa.heap.size ≤ wb.heap.size := BAB.size; (first | (have AZ0 : wb.heap[W1.heap.size]? = some (.cells #[.int .u64 0, .slice none 0 0] 90 (0, 0)) := kept_block AZa0 BAB; obtain ⟨ta0, ta1, taf0, taf1⟩ := box_facts AZ0; have lAZ0 : W1.heap.size < wb.heap.size := (Array.getElem?_eq_some_iff.1 AZ0).1; have nAZ0 : W1.heap.size ≠ wb.heap.size := Nat.ne_of_lt lAZ0; have mAZ0 : wb.heap.size ≠ W1.heap.size := Nat.ne_of_gt lAZ0) | skip); (first | (have AZ1 : wb.heap[W1.heap.size + 1]? = some (.cells #[.int .u64 0, .slice none 0 0] 90 (0, 0)) := kept_block AZa1 BAB; obtain ⟨tb0, tb1, tbf0, tbf1⟩ := box_facts AZ1; have lAZ1 : W1.heap.size + 1 < wb.heap.size := (Array.getElem?_eq_some_iff.1 AZ1).1; have nAZ1 : W1.heap.size + 1 ≠ wb.heap.size := Nat.ne_of_lt lAZ1; have mAZ1 : wb.heap.size ≠ W1.heap.size + 1 := Nat.ne_of_gt lAZ1) | skip); (first | (have AY0 : wb.heap[wa.heap.size]? = some (.cells #[.int .u64 0, .slice none 0 0] 90 (0, 0)) := kept_block (by first | exact heap_alloc_new wa (.cells #[.int .u64 0, .slice none 0 0] 90) | exact (two_new wa (.cells #[.int .u64 0, .slice none 0 0] 90) (.cells #[.int .u64 0, .slice none 0 0] 90)).1) bb; obtain ⟨tc0, tc1, tcf0, tcf1⟩ := box_facts AY0; have lAY0 : wa.heap.size < wb.heap.size := (Array.getElem?_eq_some_iff.1 AY0).1; have nAY0 : wa.heap.size ≠ wb.heap.size := Nat.ne_of_lt lAY0; have mAY0 : wb.heap.size ≠ wa.heap.size := Nat.ne_of_gt lAY0) | skip); (first | (have AY1 : wb.heap[wa.heap.size + 1]? = some (.cells #[.int .u64 0, .slice none 0 0] 90 (0, 0)) := kept_block (by exact (two_new wa (.cells #[.int .u64 0, .slice none 0 0] 90) (.cells #[.int .u64 0, .slice none 0 0] 90)).2.1) bb; obtain ⟨td0, td1, tdf0, tdf1⟩ := box_facts AY1; have lAY1 : wa.heap.size + 1 < wb.heap.size := (Array.getElem?_eq_some_iff.1 AY1).1; have nAY1 : wa.heap.size + 1 ≠ wb.heap.size := Nat.ne_of_lt lAY1; have mAY1 : wb.heap.size ≠ wa.heap.size + 1 := Nat.ne_of_gt lAY1) | skip); (first | (have nl : W1.heap.size ≠ wa.heap.size := Nat.ne_of_lt lz0; have ml : wa.heap.size ≠ W1.heap.size := Nat.ne_of_gt lz0) | skip)))
    all_goals (go_wp2_with fail; go_meet)
    all_goals first
      | with_reducible exact ⟨_, _, u1, u2, u3, u4, v1, v2, v3, v4, rfl, rfl, hide (tb_alloc bw dq db)⟩
      | with_reducible exact ⟨_, _, u1, u2, u3, u4, v1, v2, v3, v4, rfl, rfl, hide ((tb_alloc bw db dq).swap)⟩
      | with_reducible exact ⟨_, _, u1, u2, u3, u4, v1, v2, v3, v4, rfl, rfl, hide (tb_set_alloc bw dq db AZ0 (by omega))⟩
      | with_reducible exact ⟨_, _, u1, u2, u3, u4, v1, v2, v3, v4, rfl, rfl, hide ((tb_set_alloc bw db dq AZ0 (by omega)).swap)⟩
      | with_reducible exact ⟨_, _, u1, u2, u3, u4, v1, v2, v3, v4, rfl, rfl, hide (tb_set_alloc bw dq db AY0 (by omega))⟩
      | with_reducible exact ⟨_, _, u1, u2, u3, u4, v1, v2, v3, v4, rfl, rfl, hide ((tb_set_alloc bw db dq AY0 (by omega)).swap)⟩
      | with_reducible exact ⟨_, _, u1, u2, u3, u4, v1, v2, v3, v4, rfl, rfl, hide (tb_set_set bw dq db AZ0 AZ1 (by omega) (by omega) (by omega))⟩
      | with_reducible exact ⟨_, _, u1, u2, u3, u4, v1, v2, v3, v4, rfl, rfl, hide ((tb_set_set bw db dq AZ1 AZ0 (by omega) (by omega) (by omega)).swap)⟩
      | with_reducible exact ⟨_, _, u1, u2, u3, u4, v1, v2, v3, v4, rfl, rfl, hide (tb_set_set bw dq db AZ1 AZ0 (by omega) (by omega) (by omega))⟩
      | with_reducible exact ⟨_, _, u1, u2, u3, u4, v1, v2, v3, v4, rfl, rfl, hide ((tb_set_set bw db dq AZ0 AZ1 (by omega) (by omega) (by omega)).swap)⟩
      | with_reducible exact ⟨_, _, u1, u2, u3, u4, v1, v2, v3, v4, rfl, rfl, hide (tb_set_set bw dq db AZ0 AY0 (by omega) (by omega) (by omega))⟩
      | with_reducible exact ⟨_, _, u1, u2, u3, u4, v1, v2, v3, v4, rfl, rfl, hide ((tb_set_set bw db dq AY0 AZ0 (by omega) (by omega) (by omega)).swap)⟩
      | with_reducible exact ⟨_, _, u1, u2, u3, u4, v1, v2, v3, v4, rfl, rfl, hide (tb_set_set bw dq db AY0 AZ0 (by omega) (by omega) (by omega))⟩
      | with_reducible exact ⟨_, _, u1, u2, u3, u4, v1, v2, v3, v4, rfl, rfl, hide ((tb_set_set bw db dq AZ0 AY0 (by omega) (by omega) (by omega)).swap)⟩
      | with_reducible exact ⟨_, _, u1, u2, u3, u4, v1, v2, v3, v4, rfl, rfl, hide (tb_set_set bw dq db AY0 AY1 (by omega) (by omega) (by omega))⟩
      | with_reducible exact ⟨_, _, u1, u2, u3, u4, v1, v2, v3, v4, rfl, rfl, hide ((tb_set_set bw db dq AY1 AY0 (by omega) (by omega) (by omega)).swap)⟩
      | with_reducible exact ⟨_, _, u1, u2, u3, u4, v1, v2, v3, v4, rfl, rfl, hide (tb_set_set bw dq db AY1 AY0 (by omega) (by omega) (by omega))⟩
      | with_reducible exact ⟨_, _, u1, u2, u3, u4, v1, v2, v3, v4, rfl, rfl, hide ((tb_set_set bw db dq AY0 AY1 (by omega) (by omega) (by omega)).swap)⟩
  case rest =>
  obtain ⟨g6, g7, u1, u2, u3, u4, v1, v2, v3, v4, rfl, rfl, T⟩ := hcut
  obtain ⟨p6, p7, hu, hv, h6, h7, B2⟩ := T.out
  have lr : w.heap.size + 1 + 1 < W1.heap.size := (Array.getElem?_eq_some_iff.1 R1.out).1
  have n6 : g6 ≠ w.heap.size + 1 + 1 := by omega
  have n7 : g7 ≠ w.heap.size + 1 + 1 := by omega
  replace n6 := hide n6
  replace n7 := hide n7
  clear lr
  clear T S0 HA HB
  rename World => W2
  replace B2 := hide B2
  replace p6 := hide p6
  replace p7 := hide p7
  have U := hide hu
  have V := hide hv
  clear hu hv
  replace BW := hide (BW.out.then_below B2.out)
  replace P1 := hide (kept_block P1.out B2.out)
  replace Q1 := hide (kept_block Q1.out B2.out)
  replace R1 := hide (kept_block R1.out B2.out)
  replace A1 := hide (A1.out.below B2.out)
  replace N1 := hide (N1.out.below B2.out)
  replace T1 := hide (T1.out.below B2.out)
  clear h6 h7 B2
  go_upto_region 7 with fail
  obtain ⟨⟨i0, i1, i2, i3, i4⟩, -⟩ := ratBox P1.out
  obtain ⟨⟨j0, j1, j2, j3, j4⟩, -⟩ := ratBox Q1.out
  obtain ⟨e0, e1, -, -⟩ := box_facts p6.out
  obtain ⟨f0, f1, -, -⟩ := box_facts p7.out
  have S0 := hide (And.intro i1 (And.intro i2 (And.intro j1 (And.intro j2 (And.intro e0 (And.intro e1 (And.intro f0 (And.intro f1 (Below.refl W2.heap.size W2)))))))))
  clear i0 i1 i2 i3 i4 j0 j1 j2 j3 j4 e0 e1 f0 f1
  go_cut [8, 9] (fun sx sy wx => ∃ (gx gy : Nat) (q1 : Int) (q2 : Option Addr) (q3 q4 : Nat) (r1 : Int) (r2 : Option Addr) (r3 r4 : Nat), sx = .pointer (some ⟨gx, 0, none⟩) ∧ sy = .pointer (some ⟨gy, 0, none⟩) ∧ Hid (TwoB W2 wx gx gy q1 q2 q3 q4 r1 r2 r3 r4 (Nat.gcd n1 (lowN d2)) (Nat.gcd n2 (lowN d1))))
  case first =>
    go_region_held3
      (fun w' => w'.cell? ⟨w.heap.size, 1, none⟩ = some (.int .u64 x1) ∧ w'.cell? ⟨w.heap.size, 2, none⟩ = some (.slice x2 x3 x4) ∧ w'.cell? ⟨w.heap.size + 1, 1, none⟩ = some (.int .u64 p1) ∧ w'.cell? ⟨w.heap.size + 1, 2, none⟩ = some (.slice p2 p3 p4) ∧ w'.cell? ⟨g6, 0, none⟩ = some (.int .u64 u1) ∧ w'.cell? ⟨g6, 1, none⟩ = some (.slice u2 u3 u4) ∧ w'.cell? ⟨g7, 0, none⟩ = some (.int .u64 v1) ∧ w'.cell? ⟨g7, 1, none⟩ = some (.slice v2 v3 v4) ∧ Below W2.heap.size W2 w')
      ((refine cells8_keep (w := W2) S0.out ?_; repeat (first | with_reducible exact Below.refl _ _ | with_reducible refine Below.drew ?_ | with_reducible refine Below.then_below ?_ (alloc_below _ _) | with_reducible refine Below.then_below ?_ ba | with_reducible refine Below.then_below ?_ bb | (with_reducible refine Below.then_grown ?_ (box_grown _ _ _ _) (by rintro g ⟨⟩; first | exact Nat.le_refl _ | omega)))))
      (first
        | (go_at_call_of 73 (Value.agg #[.int .u64 x1, .slice x2 x3 x4]); refine (natGcd_calls _ _ _ n1 (lowN d2) K (A1.out.below (by repeat (first | with_reducible exact Below.refl _ _ | with_reducible refine Below.drew ?_ | with_reducible refine Below.then_below ?_ (alloc_below _ _)))) (V.out.below (by repeat (first | with_reducible exact Below.refl _ _ | with_reducible refine Below.drew ?_ | with_reducible refine Below.then_below ?_ (alloc_below _ _)))) k1.out l2.out hK (T1.out.below (by repeat (first | with_reducible exact Below.refl _ _ | with_reducible refine Below.drew ?_ | with_reducible refine Below.then_below ?_ (alloc_below _ _))))).mono ?_; rintro e wa ⟨⟨ra, rfl, da⟩, ba⟩; obtain ⟨e1, e2, e3, e4, rfl⟩ := da.shape2; have Ba : Below W2.heap.size W2 wa := (by repeat (first | with_reducible exact Below.refl _ _ | with_reducible refine Below.drew ?_ | with_reducible refine Below.then_below ?_ (alloc_below _ _) | with_reducible refine Below.then_below ?_ ba)); have sa : W2.heap.size ≤ wa.heap.size := Ba.size; (first | (have AZa0 : wa.heap[W2.heap.size]? = some (.cells #[.int .u64 0, .slice none 0 0] 90 (0, 0)) := kept_block (by first | exact heap_alloc_new W2 (.cells #[.int .u64 0, .slice none 0 0] 90) | exact (two_new W2 (.cells #[.int .u64 0, .slice none 0 0] 90) (.cells #[.int .u64 0, .slice none 0 0] 90)).1) ba; have lz0 : W2.heap.size < wa.heap.size := (Array.getElem?_eq_some_iff.1 AZa0).1) | skip); (first | (have AZa1 : wa.heap[W2.heap.size + 1]? = some (.cells #[.int .u64 0, .slice none 0 0] 90 (0, 0)) := kept_block (by exact (two_new W2 (.cells #[.int .u64 0, .slice none 0 0] 90) (.cells #[.int .u64 0, .slice none 0 0] 90)).2.1) ba; have lz1 : W2.heap.size + 1 < wa.heap.size := (Array.getElem?_eq_some_iff.1 AZa1).1) | skip))
        | (go_at_call_of 73 (Value.agg #[.int .u64 p1, .slice p2 p3 p4]); refine (natGcd_calls _ _ _ n2 (lowN d1) K (N1.out.below (by repeat (first | with_reducible exact Below.refl _ _ | with_reducible refine Below.drew ?_ | with_reducible refine Below.then_below ?_ (alloc_below _ _) | with_reducible refine Below.then_below ?_ ba))) (U.out.below (by repeat (first | with_reducible exact Below.refl _ _ | with_reducible refine Below.drew ?_ | with_reducible refine Below.then_below ?_ (alloc_below _ _) | with_reducible refine Below.then_below ?_ ba))) k2.out l1.out hK (T1.out.below (by repeat (first | with_reducible exact Below.refl _ _ | with_reducible refine Below.drew ?_ | with_reducible refine Below.then_below ?_ (alloc_below _ _) | with_reducible refine Below.then_below ?_ ba)))).mono ?_; rintro e wb ⟨⟨rb, rfl, db⟩, bb⟩; obtain ⟨f1, f2, f3, f4, rfl⟩ := db.shape2; have BAB : Below wa.heap.size wa wb := (by repeat (first | with_reducible exact Below.refl _ _ | with_reducible refine Below.drew ?_ | with_reducible refine Below.then_below ?_ (alloc_below _ _) | with_reducible refine Below.then_below ?_ bb)); have bw : Below W2.heap.size W2 wb := Ba.then_below BAB; have dq := da.below BAB; have sb : wa.heap.size ≤ wb.heap.size := BAB.size; (first | (have AZ0 : wb.heap[W2.heap.size]? = some (.cells #[.int .u64 0, .slice none 0 0] 90 (0, 0)) := kept_block AZa0 BAB; obtain ⟨ta0, ta1, taf0, taf1⟩ := box_facts AZ0; have lAZ0 : W2.heap.size < wb.heap.size := (Array.getElem?_eq_some_iff.1 AZ0).1; have nAZ0 : W2.heap.size ≠ wb.heap.size := Nat.ne_of_lt lAZ0; have mAZ0 : wb.heap.size ≠ W2.heap.size := Nat.ne_of_gt lAZ0) | skip); (first | (have AZ1 : wb.heap[W2.heap.size + 1]? = some (.cells #[.int .u64 0, .slice none 0 0] 90 (0, 0)) := kept_block AZa1 BAB; obtain ⟨tb0, tb1, tbf0, tbf1⟩ := box_facts AZ1; have lAZ1 : W2.heap.size + 1 < wb.heap.size := (Array.getElem?_eq_some_iff.1 AZ1).1; have nAZ1 : W2.heap.size + 1 ≠ wb.heap.size := Nat.ne_of_lt lAZ1; have mAZ1 : wb.heap.size ≠ W2.heap.size + 1 := Nat.ne_of_gt lAZ1) | skip); (first | (have AY0 : wb.heap[wa.heap.size]? = some (.cells #[.int .u64 0, .slice none 0 0] 90 (0, 0)) := kept_block (by first | exact heap_alloc_new wa (.cells #[.int .u64 0, .slice none 0 0] 90) | exact (two_new wa (.cells #[.int .u64 0, .slice none 0 0] 90) (.cells #[.int .u64 0, .slice none 0 0] 90)).1) bb; obtain ⟨tc0, tc1, tcf0, tcf1⟩ := box_facts AY0; have lAY0 : wa.heap.size < wb.heap.size := (Array.getElem?_eq_some_iff.1 AY0).1; have nAY0 : wa.heap.size ≠ wb.heap.size := Nat.ne_of_lt lAY0; have mAY0 : wb.heap.size ≠ wa.heap.size := Nat.ne_of_gt lAY0) | skip); (first | (have AY1 : wb.heap[wa.heap.size + 1]? = some (.cells #[.int .u64 0, .slice none 0 0] 90 (0, 0)) := kept_block (by exact (two_new wa (.cells #[.int .u64 0, .slice none 0 0] 90) (.cells #[.int .u64 0, .slice none 0 0] 90)).2.1) bb; obtain ⟨td0, td1, tdf0, tdf1⟩ := box_facts AY1; have lAY1 : wa.heap.size + 1 < wb.heap.size := (Array.getElem?_eq_some_iff.1 AY1).1; have nAY1 : wa.heap.size + 1 ≠ wb.heap.size := Nat.ne_of_lt lAY1; have mAY1 : wb.heap.size ≠ wa.heap.size + 1 := Nat.ne_of_gt lAY1) | skip); (first | (have nl : W2.heap.size ≠ wa.heap.size := Nat.ne_of_lt lz0; have ml : wa.heap.size ≠ W2.heap.size := Nat.ne_of_gt lz0) | skip)))
    all_goals (go_wp2_with fail; go_meet)
    all_goals first
      | with_reducible exact ⟨_, _, e1, e2, e3, e4, f1, f2, f3, f4, rfl, rfl, hide (tb_alloc bw dq db)⟩
      | with_reducible exact ⟨_, _, e1, e2, e3, e4, f1, f2, f3, f4, rfl, rfl, hide ((tb_alloc bw db dq).swap)⟩
      | with_reducible exact ⟨_, _, e1, e2, e3, e4, f1, f2, f3, f4, rfl, rfl, hide (tb_set_alloc bw dq db AZ0 (by omega))⟩
      | with_reducible exact ⟨_, _, e1, e2, e3, e4, f1, f2, f3, f4, rfl, rfl, hide ((tb_set_alloc bw db dq AZ0 (by omega)).swap)⟩
      | with_reducible exact ⟨_, _, e1, e2, e3, e4, f1, f2, f3, f4, rfl, rfl, hide (tb_set_alloc bw dq db AY0 (by omega))⟩
      | with_reducible exact ⟨_, _, e1, e2, e3, e4, f1, f2, f3, f4, rfl, rfl, hide ((tb_set_alloc bw db dq AY0 (by omega)).swap)⟩
      | with_reducible exact ⟨_, _, e1, e2, e3, e4, f1, f2, f3, f4, rfl, rfl, hide (tb_set_set bw dq db AZ0 AZ1 (by omega) (by omega) (by omega))⟩
      | with_reducible exact ⟨_, _, e1, e2, e3, e4, f1, f2, f3, f4, rfl, rfl, hide ((tb_set_set bw db dq AZ1 AZ0 (by omega) (by omega) (by omega)).swap)⟩
      | with_reducible exact ⟨_, _, e1, e2, e3, e4, f1, f2, f3, f4, rfl, rfl, hide (tb_set_set bw dq db AZ1 AZ0 (by omega) (by omega) (by omega))⟩
      | with_reducible exact ⟨_, _, e1, e2, e3, e4, f1, f2, f3, f4, rfl, rfl, hide ((tb_set_set bw db dq AZ0 AZ1 (by omega) (by omega) (by omega)).swap)⟩
      | with_reducible exact ⟨_, _, e1, e2, e3, e4, f1, f2, f3, f4, rfl, rfl, hide (tb_set_set bw dq db AZ0 AY0 (by omega) (by omega) (by omega))⟩
      | with_reducible exact ⟨_, _, e1, e2, e3, e4, f1, f2, f3, f4, rfl, rfl, hide ((tb_set_set bw db dq AY0 AZ0 (by omega) (by omega) (by omega)).swap)⟩
      | with_reducible exact ⟨_, _, e1, e2, e3, e4, f1, f2, f3, f4, rfl, rfl, hide (tb_set_set bw dq db AY0 AZ0 (by omega) (by omega) (by omega))⟩
      | with_reducible exact ⟨_, _, e1, e2, e3, e4, f1, f2, f3, f4, rfl, rfl, hide ((tb_set_set bw db dq AZ0 AY0 (by omega) (by omega) (by omega)).swap)⟩
      | with_reducible exact ⟨_, _, e1, e2, e3, e4, f1, f2, f3, f4, rfl, rfl, hide (tb_set_set bw dq db AY0 AY1 (by omega) (by omega) (by omega))⟩
      | with_reducible exact ⟨_, _, e1, e2, e3, e4, f1, f2, f3, f4, rfl, rfl, hide ((tb_set_set bw db dq AY1 AY0 (by omega) (by omega) (by omega)).swap)⟩
      | with_reducible exact ⟨_, _, e1, e2, e3, e4, f1, f2, f3, f4, rfl, rfl, hide (tb_set_set bw dq db AY1 AY0 (by omega) (by omega) (by omega))⟩
      | with_reducible exact ⟨_, _, e1, e2, e3, e4, f1, f2, f3, f4, rfl, rfl, hide ((tb_set_set bw db dq AY0 AY1 (by omega) (by omega) (by omega)).swap)⟩
  case rest =>
  obtain ⟨g8, g9, e1, e2, e3, e4, f1, f2, f3, f4, rfl, rfl, T⟩ := hcut
  obtain ⟨p8, p9, he, hf, h8, h9, B2⟩ := T.out
  have lr : w.heap.size + 1 + 1 < W2.heap.size := (Array.getElem?_eq_some_iff.1 R1.out).1
  have n8 : g8 ≠ w.heap.size + 1 + 1 := by omega
  have n9 : g9 ≠ w.heap.size + 1 + 1 := by omega
  replace n8 := hide n8
  replace n9 := hide n9
  clear lr
  clear T S0
  rename World => W3
  replace B2 := hide B2
  replace p8 := hide p8
  replace p9 := hide p9
  have E := hide he
  have F := hide hf
  clear he hf
  replace BW := hide (BW.out.then_below B2.out)
  replace P1 := hide (kept_block P1.out B2.out)
  replace Q1 := hide (kept_block Q1.out B2.out)
  replace R1 := hide (kept_block R1.out B2.out)
  replace p6 := hide (kept_block p6.out B2.out)
  replace p7 := hide (kept_block p7.out B2.out)
  replace A1 := hide (A1.out.below B2.out)
  replace N1 := hide (N1.out.below B2.out)
  replace T1 := hide (T1.out.below B2.out)
  replace U := hide (U.out.below B2.out)
  replace V := hide (V.out.below B2.out)
  clear h8 h9 B2
  go_upto_region 8 with fail
  obtain ⟨⟨i0, i1, i2, i3, i4⟩, -⟩ := ratBox P1.out
  obtain ⟨⟨j0, j1, j2, j3, j4⟩, -⟩ := ratBox Q1.out
  obtain ⟨c0, c1, -, -⟩ := box_facts p8.out
  obtain ⟨c2, c3, -, -⟩ := box_facts p9.out
  have S0 := hide (And.intro i1 (And.intro i2 (And.intro j1 (And.intro j2 (And.intro c0 (And.intro c1 (And.intro c2 (And.intro c3 (Below.refl W3.heap.size W3)))))))))
  clear i0 i1 i2 i3 i4 j0 j1 j2 j3 j4 c0 c1 c2 c3
  go_cut [10] (fun sx wx => ∃ (gx : Nat) (q1 : Int) (q2 : Option Addr) (q3 q4 : Nat), sx = .pointer (some ⟨gx, 0, none⟩) ∧ Hid (OneB W3 wx gx q1 q2 q3 q4 (n1 / Nat.gcd n1 (lowN d2) * (n2 / Nat.gcd n2 (lowN d1)))))
  case first =>
    go_region_held3
      (fun w' => w'.cell? ⟨w.heap.size, 1, none⟩ = some (.int .u64 x1) ∧ w'.cell? ⟨w.heap.size, 2, none⟩ = some (.slice x2 x3 x4) ∧ w'.cell? ⟨w.heap.size + 1, 1, none⟩ = some (.int .u64 p1) ∧ w'.cell? ⟨w.heap.size + 1, 2, none⟩ = some (.slice p2 p3 p4) ∧ w'.cell? ⟨g8, 0, none⟩ = some (.int .u64 e1) ∧ w'.cell? ⟨g8, 1, none⟩ = some (.slice e2 e3 e4) ∧ w'.cell? ⟨g9, 0, none⟩ = some (.int .u64 f1) ∧ w'.cell? ⟨g9, 1, none⟩ = some (.slice f2 f3 f4) ∧ Below W3.heap.size W3 w')
      ((refine cells8_keep (w := W3) S0.out ?_; repeat (first | with_reducible exact Below.refl _ _ | with_reducible refine Below.drew ?_ | with_reducible refine Below.then_below ?_ (alloc_below _ _) | with_reducible refine Below.then_below ?_ b1 | with_reducible refine Below.then_below ?_ b2 | with_reducible refine Below.then_below ?_ b3 | (with_reducible refine Below.then_grown ?_ (box_grown _ _ _ _) (by rintro g ⟨⟩; first | exact Nat.le_refl _ | omega)))))
      (first
        | (go_at_call_of 74 (Value.agg #[.int .u64 x1, .slice x2 x3 x4]); refine (over_calls _ _ _ n1 (Nat.gcd n1 (lowN d2)) K (A1.out.below (by repeat (first | with_reducible exact Below.refl _ _ | with_reducible refine Below.drew ?_ | with_reducible refine Below.then_below ?_ (alloc_below _ _)))) (E.out.below (by repeat (first | with_reducible exact Below.refl _ _ | with_reducible refine Below.drew ?_ | with_reducible refine Below.then_below ?_ (alloc_below _ _)))) k1.out hg1.out hK).mono ?_; rintro e w1 ⟨⟨ra, rfl, da⟩, b1⟩; have B1 : Below W3.heap.size W3 w1 := (by repeat (first | with_reducible exact Below.refl _ _ | with_reducible refine Below.drew ?_ | with_reducible refine Below.then_below ?_ (alloc_below _ _) | with_reducible refine Below.then_below ?_ b1)); have sz1 : W3.heap.size ≤ w1.heap.size := B1.size; (first | (have AZ : w1.heap[W3.heap.size]? = some (.cells #[.int .u64 0, .slice none 0 0] 90 (0, 0)) := kept_block (by exact heap_alloc_new W3 (.cells #[.int .u64 0, .slice none 0 0] 90)) b1; have lz : W3.heap.size < w1.heap.size := (Array.getElem?_eq_some_iff.1 AZ).1) | (replace AZ := kept_block AZ B1) | skip))
        | (go_at_call_of 74 (Value.agg #[.int .u64 p1, .slice p2 p3 p4]); refine (over_calls _ _ _ n2 (Nat.gcd n2 (lowN d1)) K (N1.out.below (by repeat (first | with_reducible exact Below.refl _ _ | with_reducible refine Below.drew ?_ | with_reducible refine Below.then_below ?_ (alloc_below _ _) | with_reducible refine Below.then_below ?_ b1))) (F.out.below (by repeat (first | with_reducible exact Below.refl _ _ | with_reducible refine Below.drew ?_ | with_reducible refine Below.then_below ?_ (alloc_below _ _) | with_reducible refine Below.then_below ?_ b1))) k2.out hg2.out hK).mono ?_; rintro e w2 ⟨⟨rb, rfl, db⟩, b2⟩; have B2 : Below w1.heap.size w1 w2 := (by repeat (first | with_reducible exact Below.refl _ _ | with_reducible refine Below.drew ?_ | with_reducible refine Below.then_below ?_ (alloc_below _ _) | with_reducible refine Below.then_below ?_ b2)); have sz2 : w1.heap.size ≤ w2.heap.size := B2.size; replace da := da.below B2; (first | (have AZ : w2.heap[w1.heap.size]? = some (.cells #[.int .u64 0, .slice none 0 0] 90 (0, 0)) := kept_block (by exact heap_alloc_new w1 (.cells #[.int .u64 0, .slice none 0 0] 90)) b2; have lz : w1.heap.size < w2.heap.size := (Array.getElem?_eq_some_iff.1 AZ).1) | (replace AZ := kept_block AZ B2) | skip))
        | (go_at_call 75; refine (natMul_calls _ _ _ (n1 / Nat.gcd n1 (lowN d2)) (n2 / Nat.gcd n2 (lowN d1)) K (da.below (by repeat (first | with_reducible exact Below.refl _ _ | with_reducible refine Below.drew ?_ | with_reducible refine Below.then_below ?_ (alloc_below _ _)))) (db.below (by repeat (first | with_reducible exact Below.refl _ _ | with_reducible refine Below.drew ?_ | with_reducible refine Below.then_below ?_ (alloc_below _ _)))) (div_BB k1.out) (div_BB k2.out) hK).mono ?_; rintro e w3 ⟨⟨rc, rfl, dq⟩, b3⟩; have B3 : Below w2.heap.size w2 w3 := (by repeat (first | with_reducible exact Below.refl _ _ | with_reducible refine Below.drew ?_ | with_reducible refine Below.then_below ?_ (alloc_below _ _) | with_reducible refine Below.then_below ?_ b3)); have sz3 : w2.heap.size ≤ w3.heap.size := B3.size; obtain ⟨m1, m2, m3, m4, rfl⟩ := dq.shape2; (first | (have AZ : w3.heap[w2.heap.size]? = some (.cells #[.int .u64 0, .slice none 0 0] 90 (0, 0)) := kept_block (by exact heap_alloc_new w2 (.cells #[.int .u64 0, .slice none 0 0] 90)) b3; have lz : w2.heap.size < w3.heap.size := (Array.getElem?_eq_some_iff.1 AZ).1) | (replace AZ := kept_block AZ B3) | skip); (first | (have AZ2 := AZ; obtain ⟨ta0, ta1, tf0, tf1⟩ := box_facts AZ2) | skip)))
    all_goals (go_wp2_with fail; go_meet)
    all_goals first
      | with_reducible exact ⟨_, m1, m2, m3, m4, rfl, hide (ob_alloc ((B1.then_below B2).then_below B3) dq)⟩
      | with_reducible exact ⟨_, m1, m2, m3, m4, rfl, hide (ob_set ((B1.then_below B2).then_below B3) dq AZ (by omega))⟩
  case rest =>
  obtain ⟨g10, m1, m2, m3, m4, rfl, T⟩ := hcut
  obtain ⟨p10, hm, h10, B2⟩ := T.out
  have lr : w.heap.size + 1 + 1 < W3.heap.size := (Array.getElem?_eq_some_iff.1 R1.out).1
  have n10 : g10 ≠ w.heap.size + 1 + 1 := by omega
  replace n10 := hide n10
  clear lr
  clear T S0
  rename World => W4
  replace B2 := hide B2
  have Mm := hide hm
  clear hm
  replace BW := hide (BW.out.then_below B2.out)
  replace R1 := hide (kept_block R1.out B2.out)
  replace p6 := hide (kept_block p6.out B2.out)
  replace p7 := hide (kept_block p7.out B2.out)
  replace p8 := hide (kept_block p8.out B2.out)
  replace p9 := hide (kept_block p9.out B2.out)
  replace U := hide (U.out.below B2.out)
  replace V := hide (V.out.below B2.out)
  replace E := hide (E.out.below B2.out)
  replace F := hide (F.out.below B2.out)
  clear h10 B2 P1 Q1 A1 N1 T1
  go_upto_region 9 with fail
  replace p10 := hide (kept_block p10 (Below.refl _ _))
  obtain ⟨c0, c1, -, -⟩ := box_facts p10.out
  obtain ⟨c2, c3, -, -⟩ := box_facts p6.out
  obtain ⟨c4, c5, -, -⟩ := box_facts p9.out
  obtain ⟨c6, c7, -, -⟩ := box_facts p7.out
  obtain ⟨c8, c9, -, -⟩ := box_facts p8.out
  have S0 := hide (And.intro c0 (And.intro c1 (And.intro c2 (And.intro c3 (And.intro c4 (And.intro c5 (And.intro c6 (And.intro c7 (And.intro c8 c9)))))))))
  clear c0 c1 c2 c3 c4 c5 c6 c7 c8 c9 p10
  go_region_held3
    (fun w' => w'.cell? ⟨g10, 0, none⟩ = some (.int .u64 m1) ∧ w'.cell? ⟨g10, 1, none⟩ = some (.slice m2 m3 m4) ∧ w'.cell? ⟨g6, 0, none⟩ = some (.int .u64 u1) ∧ w'.cell? ⟨g6, 1, none⟩ = some (.slice u2 u3 u4) ∧ w'.cell? ⟨g9, 0, none⟩ = some (.int .u64 f1) ∧ w'.cell? ⟨g9, 1, none⟩ = some (.slice f2 f3 f4) ∧ w'.cell? ⟨g7, 0, none⟩ = some (.int .u64 v1) ∧ w'.cell? ⟨g7, 1, none⟩ = some (.slice v2 v3 v4) ∧ w'.cell? ⟨g8, 0, none⟩ = some (.int .u64 e1) ∧ w'.cell? ⟨g8, 1, none⟩ = some (.slice e2 e3 e4))
    ((repeat (first | with_reducible exact S0.out | with_reducible refine bare10_set5 ?_ n10.out n10.out n6.out n6.out n9.out n9.out n7.out n7.out n8.out n8.out | with_reducible refine bare10_keep ?_ w4b | with_reducible refine bare10_keep ?_ w3b | with_reducible refine bare10_keep ?_ w2b | with_reducible refine bare10_keep ?_ w1b | with_reducible refine bare10_keep ?_ ((Below.refl _ _).drew))))
    (first
      | (go_at_call_of 74 (Value.agg #[.int .u64 u1, .slice u2 u3 u4]); refine (over_calls _ _ _ (lowN d1) (Nat.gcd n2 (lowN d1)) K (U.out.below (by repeat (first | with_reducible exact Below.refl _ _ | with_reducible refine Below.drew ?_ | with_reducible refine Below.then_below ?_ (alloc_below _ _)))) (F.out.below (by repeat (first | with_reducible exact Below.refl _ _ | with_reducible refine Below.drew ?_ | with_reducible refine Below.then_below ?_ (alloc_below _ _)))) l1.out hg2.out hK).mono ?_; rintro e w1 ⟨⟨ra, rfl, da⟩, w1b⟩)
      | (go_at_call_of 74 (Value.agg #[.int .u64 v1, .slice v2 v3 v4]); refine (over_calls _ _ _ (lowN d2) (Nat.gcd n1 (lowN d2)) K (V.out.below (by repeat (first | with_reducible exact Below.refl _ _ | with_reducible refine Below.drew ?_ | with_reducible refine Below.then_below ?_ (alloc_below _ _) | with_reducible refine Below.then_below ?_ w1b))) (E.out.below (by repeat (first | with_reducible exact Below.refl _ _ | with_reducible refine Below.drew ?_ | with_reducible refine Below.then_below ?_ (alloc_below _ _) | with_reducible refine Below.then_below ?_ w1b))) l2.out hg1.out hK).mono ?_; rintro e w2 ⟨⟨rb, rfl, db⟩, w2b⟩)
      | (go_at_call 75; refine (natMul_calls _ _ _ (lowN d1 / Nat.gcd n2 (lowN d1)) (lowN d2 / Nat.gcd n1 (lowN d2)) K (da.below w2b) db (div_BB l1.out) (div_BB l2.out) hK).mono ?_; rintro e w3 ⟨⟨rc, rfl, dc⟩, w3b⟩)
      | (go_at_call 59; refine (lowest_calls _ (s1 != s2) _ _ (n1 / Nat.gcd n1 (lowN d2) * (n2 / Nat.gcd n2 (lowN d1))) _ (Mm.out.below (by repeat (first | with_reducible exact Below.refl _ _ | with_reducible refine Below.drew ?_ | with_reducible refine Below.then_below ?_ (alloc_below _ _) | with_reducible refine Below.then_below ?_ w3b | with_reducible refine Below.then_below ?_ w2b | with_reducible refine Below.then_below ?_ w1b))) dc).mono ?_; rintro e w4 ⟨⟨rd, rfl, ld⟩, w4b⟩; obtain ⟨lb, nn, dd, hrd, hLow⟩ := Low.shape ld; obtain ⟨t1, t2, t3, t4, t5, t6, t7, t8, rfl, dn, dl⟩ := hrd.shape; have bw4 : Below W4.heap.size W4 w4 := (by repeat (first | with_reducible exact Below.refl _ _ | with_reducible refine Below.drew ?_ | with_reducible refine Below.then_below ?_ (alloc_below _ _) | with_reducible refine Below.then_below ?_ w4b | with_reducible refine Below.then_below ?_ w3b | with_reducible refine Below.then_below ?_ w2b | with_reducible refine Below.then_below ?_ w1b)); have R2 := kept_block R1.out bw4; obtain ⟨⟨o0, o1, o2, o3, o4⟩, of0, of1, of2, of3, of4⟩ := ratBox R2))
  go_wp2
  refine bodyPost_ret (v := .agg #[.bool lb, .int .u64 t1, .slice t2 t3 t4, .int .u64 t5, .slice t6 t7 t8]) (by simp [results, Tryz.results58, go_sem, o0, o1, o2, o3, o4]) rfl ?_
  have q := set5 w4 (w.heap.size + 1 + 1) (.bool lb) (.int .u64 t1) (.slice t2 t3 t4) (.int .u64 t5) (.slice t6 t7 t8)
  exact ⟨⟨_, rfl, hLow.out _ _ (DenR.make dn dl R2 (nopair5 _ _ _ _ _ _ _ _ _) q)⟩, (BW.out.then_below bw4).then_grown q (by rintro g ⟨⟩; omega)⟩
end Go.Proofs.YtlepicdpelkmlaaGreatDoor
