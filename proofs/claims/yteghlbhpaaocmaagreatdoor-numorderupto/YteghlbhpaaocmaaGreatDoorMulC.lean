/-
  Package rat: Mul.
-/
import Derived.Test.YteghlbhpaaocmaaGreatDoorMulB
import Derived.Test.YteghlbhpaaocmaaGreatDoorAll8
import Derived.Test.YteghlbhpaaocmaaGreatDoorQAll
/- ==== RatMul ==== -/
namespace Go.Proofs.YteghlbhpaaocmaaGreatDoor
open Go.RowKit
set_option linter.unusedVariables false
set_option maxRecDepth 100000 in
set_option maxHeartbeats 4000000 in
theorem pmul_whole (w : World) (va vb : Value) (s1 s2 : Bool) (n1 d1 n2 d2 K : Nat) (ha : DenR w va s1 n1 d1) (hb : DenR w vb s2 n2 d2) (h1 : d1 = 0) (h2 : d2 = 0) (k1 : (n1 : Int) < M.BB ^ K) (k2 : (n2 : Int) < M.BB ^ K) (hK : K ≤ 4398046511104) (z1 : n1 ≠ 0) (z2 : n2 ≠ 0) :
    Calls Tryz.prog 52 #[va, vb] w fun e w' => (∃ r, e = .returned r ∧ DenR w' r ((s1 != s2) && !decide (n1 * n2 = 0)) (n1 * n2) 0) ∧ Below w.heap.size w w' := by
  have ha' := hide ha
  have hb' := hide hb
  obtain ⟨x1, x2, x3, x4, y1, y2, y3, y4, rfl, a1, a2⟩ := ha
  obtain ⟨p1, p2, p3, p4, r1, r2, r3, r4, rfl, b1, b2⟩ := hb
  subst h1
  subst h2
  have z1 : (w.alloc (.cells #[.bool s1, .int .u64 x1, .slice x2 x3 x4, .int .u64 y1, .slice y2 y3 y4] 49)).heap.size = w.heap.size + 1 := by show (w.heap.push _).size = _; simp
  have z2 : ((w.alloc (.cells #[.bool s1, .int .u64 x1, .slice x2 x3 x4, .int .u64 y1, .slice y2 y3 y4] 49)).alloc (.cells #[.bool s2, .int .u64 p1, .slice p2 p3 p4, .int .u64 r1, .slice r2 r3 r4] 49)).heap.size = w.heap.size + 1 + 1 := by show ((w.heap.push _).push _).size = _; simp
  have P0 := kept_block (kept_block (heap_alloc_new w (.cells #[.bool s1, .int .u64 x1, .slice x2 x3 x4, .int .u64 y1, .slice y2 y3 y4] 49)) (alloc_below _ (.cells #[.bool s2, .int .u64 p1, .slice p2 p3 p4, .int .u64 r1, .slice r2 r3 r4] 49))) (alloc_below _ (.cells #[.bool false, .int .u64 0, .slice none 0 0, .int .u64 0, .slice none 0 0] 49))
  have Q0 := kept_block (heap_alloc_new (w.alloc (.cells #[.bool s1, .int .u64 x1, .slice x2 x3 x4, .int .u64 y1, .slice y2 y3 y4] 49)) (.cells #[.bool s2, .int .u64 p1, .slice p2 p3 p4, .int .u64 r1, .slice r2 r3 r4] 49)) (alloc_below _ (.cells #[.bool false, .int .u64 0, .slice none 0 0, .int .u64 0, .slice none 0 0] 49))
  have R0 := heap_alloc_new ((w.alloc (.cells #[.bool s1, .int .u64 x1, .slice x2 x3 x4, .int .u64 y1, .slice y2 y3 y4] 49)).alloc (.cells #[.bool s2, .int .u64 p1, .slice p2 p3 p4, .int .u64 r1, .slice r2 r3 r4] 49)) (.cells #[.bool false, .int .u64 0, .slice none 0 0, .int .u64 0, .slice none 0 0] 49)
  rw [z1] at Q0
  rw [z2] at R0
  have B0 := (alloc2_below w (.cells #[.bool s1, .int .u64 x1, .slice x2 x3 x4, .int .u64 y1, .slice y2 y3 y4] 49) (.cells #[.bool s2, .int .u64 p1, .slice p2 p3 p4, .int .u64 r1, .slice r2 r3 r4] 49)).then_below (alloc_below _ (.cells #[.bool false, .int .u64 0, .slice none 0 0, .int .u64 0, .slice none 0 0] 49))
  clear z1 z2
  obtain ⟨W0, hW0⟩ : ∃ W0, ((w.alloc (.cells #[.bool s1, .int .u64 x1, .slice x2 x3 x4, .int .u64 y1, .slice y2 y3 y4] 49)).alloc (.cells #[.bool s2, .int .u64 p1, .slice p2 p3 p4, .int .u64 r1, .slice r2 r3 r4] 49)).alloc (.cells #[.bool false, .int .u64 0, .slice none 0 0, .int .u64 0, .slice none 0 0] 49) = W0 := ⟨_, rfl⟩
  rw [hW0] at P0 Q0 R0 B0
  replace P0 := hide P0
  replace Q0 := hide Q0
  replace R0 := hide R0
  replace B0 := hide B0
  replace a1 := hide a1
  replace a2 := hide a2
  replace b1 := hide b1
  replace b2 := hide b2
  replace k1 := hide k1
  replace k2 := hide k2
  obtain ⟨⟨i0, i1, i2, i3, i4⟩, -⟩ := ratBox P0.out
  obtain ⟨⟨j0, j1, j2, j3, j4⟩, -⟩ := ratBox Q0.out
  have qz1 := isZero_calls W0 _ n1 (a1.out.below B0.out)
  have qz2 := fun W (hW : Below W0.heap.size W0 W) => isZero_calls W _ n2 ((b1.out.below B0.out).below hW)
  rw [decide_eq_false z1] at qz1
  simp only [decide_eq_false z2] at qz2
  replace qz1 := hide qz1
  replace qz2 := hide qz2
  go_enter Tryz.func52, Tryz.ntmps52
  go_upto_region 4 with (first
    | (go_at_call_of 36 (Value.agg #[.int .u64 x1, .slice x2 x3 x4]); refine qz1.out.mono ?_; rintro e wz ⟨rfl, bz⟩; obtain ⟨⟨zq0, zq1, zq2, zq3, zq4⟩, -⟩ := ratBox (kept_block Q0.out bz); replace bz := hide bz)
    | (go_at_call_of 36 (Value.agg #[.int .u64 p1, .slice p2 p3 p4]); refine (qz2.out _ bz.out).mono ?_; rintro e W9 ⟨rfl, by9⟩; replace by9 := hide (bz.out.then_below by9)))
  clear i0 i1 i2 i3 i4 j0 j1 j2 j3 j4 zq0 zq1 zq2 zq3 zq4 hW0 qz1 qz2
  replace P0 := hide (kept_block P0.out by9.out)
  replace Q0 := hide (kept_block Q0.out by9.out)
  replace R0 := hide (kept_block R0.out by9.out)
  replace B0 := hide (B0.out.then_below by9.out)
  clear by9 bz
  obtain ⟨⟨i0, i1, i2, i3, i4⟩, -⟩ := ratBox P0.out
  obtain ⟨⟨j0, j1, j2, j3, j4⟩, -⟩ := ratBox Q0.out
  go_wp2_with (first
    | (go_at_call_of 76 (Value.agg #[.bool s1, .int .u64 x1, .slice x2 x3 x4, .int .u64 y1, .slice y2 y3 y4]); refine (isWhole_calls _ _ s1 n1 0 (ha'.out.below B0.out)).mono ?_; rintro e wa ⟨rfl, ba⟩; obtain ⟨⟨t0, t1, t2, t3, t4⟩, -⟩ := ratBox (kept_block Q0.out ba); replace ba := hide ba)
    | (go_at_call_of 76 (Value.agg #[.bool s2, .int .u64 p1, .slice p2 p3 p4, .int .u64 r1, .slice r2 r3 r4]); refine (isWhole_calls _ _ s2 n2 0 ((hb'.out.below B0.out).below ba.out)).mono ?_; rintro e wb ⟨rfl, bb⟩; replace bb := hide (ba.out.then_below bb); obtain ⟨⟨u0, u1, u2, u3, u4⟩, -⟩ := ratBox (kept_block P0.out bb.out); obtain ⟨⟨v0, v1, v2, v3, v4⟩, -⟩ := ratBox (kept_block Q0.out bb.out))
    | (go_at_call 84; refine (natMul_calls _ _ _ n1 n2 K ((a1.out.below B0.out).below bb.out) ((b1.out.below B0.out).below bb.out) k1.out k2.out hK).mono ?_; rintro e wc ⟨⟨rc, rfl, nc⟩, bc⟩; obtain ⟨c1, c2, c3, c4, rfl⟩ := nc.shape2; replace nc := hide nc; replace bc := hide (bb.out.then_below bc))
    | (go_at_call 88; refine (whole_calls _ (s1 != s2) _ (n1 * n2) nc.out).mono ?_; rintro e wd ⟨⟨rd, rfl, md⟩, bd⟩; obtain ⟨e1, e2, e3, e4, g1, g2, g3, g4, rfl, m1, m2⟩ := md; have R1 := hide (kept_block R0.out (bc.out.then_below bd)); obtain ⟨⟨w0, w1, w2, w3, w4⟩, f0, f1, f2, f3, f4⟩ := ratBox R1.out; replace m1 := hide m1; replace m2 := hide m2; replace bd := hide (bc.out.then_below bd)))
  refine bodyPost_ret (v := .agg #[.bool ((s1 != s2) && !decide (n1 * n2 = 0)), .int .u64 e1, .slice e2 e3 e4, .int .u64 g1, .slice g2 g3 g4]) (by simp [results, Tryz.results52, go_sem, w0, w1, w2, w3, w4]) rfl ?_
  have q := set5 wd (w.heap.size + 1 + 1) (.bool ((s1 != s2) && !decide (n1 * n2 = 0))) (.int .u64 e1) (.slice e2 e3 e4) (.int .u64 g1) (.slice g2 g3 g4)
  exact ⟨⟨_, rfl, DenR.make m1.out m2.out R1.out (nopair5 _ _ _ _ _ _ _ _ _) q⟩, (B0.out.then_below bd.out).then_grown q (by rintro g ⟨⟩; omega)⟩
set_option maxRecDepth 100000 in
set_option maxHeartbeats 4000000 in
theorem pmul_zero (w : World) (va vb : Value) (s1 s2 : Bool) (n1 d1 n2 d2 : Nat) (ha : DenR w va s1 n1 d1) (hb : DenR w vb s2 n2 d2) (hz : n1 = 0 ∨ n2 = 0) :
    Calls Tryz.prog 52 #[va, vb] w fun e w' => (∃ r, e = .returned r ∧ DenR w' r false 0 0) ∧ Below w.heap.size w w' := by
  have ha' := hide ha
  have hb' := hide hb
  obtain ⟨x1, x2, x3, x4, y1, y2, y3, y4, rfl, a1, a2⟩ := ha
  obtain ⟨p1, p2, p3, p4, r1, r2, r3, r4, rfl, b1, b2⟩ := hb
  have z1 : (w.alloc (.cells #[.bool s1, .int .u64 x1, .slice x2 x3 x4, .int .u64 y1, .slice y2 y3 y4] 49)).heap.size = w.heap.size + 1 := by show (w.heap.push _).size = _; simp
  have z2 : ((w.alloc (.cells #[.bool s1, .int .u64 x1, .slice x2 x3 x4, .int .u64 y1, .slice y2 y3 y4] 49)).alloc (.cells #[.bool s2, .int .u64 p1, .slice p2 p3 p4, .int .u64 r1, .slice r2 r3 r4] 49)).heap.size = w.heap.size + 1 + 1 := by show ((w.heap.push _).push _).size = _; simp
  have P0 := kept_block (kept_block (heap_alloc_new w (.cells #[.bool s1, .int .u64 x1, .slice x2 x3 x4, .int .u64 y1, .slice y2 y3 y4] 49)) (alloc_below _ (.cells #[.bool s2, .int .u64 p1, .slice p2 p3 p4, .int .u64 r1, .slice r2 r3 r4] 49))) (alloc_below _ (.cells #[.bool false, .int .u64 0, .slice none 0 0, .int .u64 0, .slice none 0 0] 49))
  have Q0 := kept_block (heap_alloc_new (w.alloc (.cells #[.bool s1, .int .u64 x1, .slice x2 x3 x4, .int .u64 y1, .slice y2 y3 y4] 49)) (.cells #[.bool s2, .int .u64 p1, .slice p2 p3 p4, .int .u64 r1, .slice r2 r3 r4] 49)) (alloc_below _ (.cells #[.bool false, .int .u64 0, .slice none 0 0, .int .u64 0, .slice none 0 0] 49))
  have R0 := heap_alloc_new ((w.alloc (.cells #[.bool s1, .int .u64 x1, .slice x2 x3 x4, .int .u64 y1, .slice y2 y3 y4] 49)).alloc (.cells #[.bool s2, .int .u64 p1, .slice p2 p3 p4, .int .u64 r1, .slice r2 r3 r4] 49)) (.cells #[.bool false, .int .u64 0, .slice none 0 0, .int .u64 0, .slice none 0 0] 49)
  rw [z1] at Q0
  rw [z2] at R0
  have B0 := (alloc2_below w (.cells #[.bool s1, .int .u64 x1, .slice x2 x3 x4, .int .u64 y1, .slice y2 y3 y4] 49) (.cells #[.bool s2, .int .u64 p1, .slice p2 p3 p4, .int .u64 r1, .slice r2 r3 r4] 49)).then_below (alloc_below _ (.cells #[.bool false, .int .u64 0, .slice none 0 0, .int .u64 0, .slice none 0 0] 49))
  clear z1 z2
  obtain ⟨W0, hW0⟩ : ∃ W0, ((w.alloc (.cells #[.bool s1, .int .u64 x1, .slice x2 x3 x4, .int .u64 y1, .slice y2 y3 y4] 49)).alloc (.cells #[.bool s2, .int .u64 p1, .slice p2 p3 p4, .int .u64 r1, .slice r2 r3 r4] 49)).alloc (.cells #[.bool false, .int .u64 0, .slice none 0 0, .int .u64 0, .slice none 0 0] 49) = W0 := ⟨_, rfl⟩
  rw [hW0] at P0 Q0 R0 B0
  replace P0 := hide P0
  replace Q0 := hide Q0
  replace R0 := hide R0
  replace B0 := hide B0
  replace a1 := hide a1
  replace a2 := hide a2
  replace b1 := hide b1
  replace b2 := hide b2
  obtain ⟨⟨i0, i1, i2, i3, i4⟩, -⟩ := ratBox P0.out
  obtain ⟨⟨j0, j1, j2, j3, j4⟩, -⟩ := ratBox Q0.out
  have qz1 := isZero_calls W0 _ n1 (a1.out.below B0.out)
  have qz2 := fun W (hW : Below W0.heap.size W0 W) => isZero_calls W _ n2 ((b1.out.below B0.out).below hW)
  by_cases z1 : n1 = 0
  · rw [decide_eq_true z1] at qz1
    replace qz1 := hide qz1
    clear qz2 hz
    go_enter Tryz.func52, Tryz.ntmps52
    go_wp2_with (go_at_call 36; refine qz1.out.mono ?_; rintro e wz ⟨rfl, bz⟩; obtain ⟨⟨zq0, zq1, zq2, zq3, zq4⟩, zf0, zf1, zf2, zf3, zf4⟩ := ratBox (kept_block R0.out bz); have R1 := hide (kept_block R0.out bz); replace bz := hide bz)
    refine bodyPost_ret (v := .agg #[.bool false, .int .u64 0, .slice none 0 0, .int .u64 0, .slice none 0 0]) (by simp [results, Tryz.results52, go_sem, zq0, zq1, zq2, zq3, zq4]) rfl ?_
    have q := set5 wz (w.heap.size + 1 + 1) (.bool false) (.int .u64 0) (.slice none 0 0) (.int .u64 0) (.slice none 0 0)
    exact ⟨⟨_, rfl, DenR.make (den_word _ 0 (by decide)) (den_word _ 0 (by decide)) R1.out (nopair5 _ _ _ _ _ _ _ _ _) q⟩, (B0.out.then_below bz.out).then_grown q (by rintro g ⟨⟩; omega)⟩
  · have z2 : n2 = 0 := hz.resolve_left z1
    rw [decide_eq_false z1] at qz1
    simp only [decide_eq_true z2] at qz2
    replace qz1 := hide qz1
    replace qz2 := hide qz2
    clear hz z1 z2
    go_enter Tryz.func52, Tryz.ntmps52
    go_wp2_with (first
      | (go_at_call_of 36 (Value.agg #[.int .u64 x1, .slice x2 x3 x4]); refine qz1.out.mono ?_; rintro e wy ⟨rfl, by9⟩; obtain ⟨⟨zq0, zq1, zq2, zq3, zq4⟩, -⟩ := ratBox (kept_block Q0.out by9); replace by9 := hide by9)
      | (go_at_call_of 36 (Value.agg #[.int .u64 p1, .slice p2 p3 p4]); refine (qz2.out _ by9.out).mono ?_; rintro e wz ⟨rfl, bz⟩; replace bz := hide (by9.out.then_below bz); have R1 := hide (kept_block R0.out bz.out); obtain ⟨⟨zr0, zr1, zr2, zr3, zr4⟩, zf0, zf1, zf2, zf3, zf4⟩ := ratBox R1.out))
    refine bodyPost_ret (v := .agg #[.bool false, .int .u64 0, .slice none 0 0, .int .u64 0, .slice none 0 0]) (by simp [results, Tryz.results52, go_sem, zr0, zr1, zr2, zr3, zr4]) rfl ?_
    have q := set5 wz (w.heap.size + 1 + 1) (.bool false) (.int .u64 0) (.slice none 0 0) (.int .u64 0) (.slice none 0 0)
    exact ⟨⟨_, rfl, DenR.make (den_word _ 0 (by decide)) (den_word _ 0 (by decide)) R1.out (nopair5 _ _ _ _ _ _ _ _ _) q⟩, (B0.out.then_below bz.out).then_grown q (by rintro g ⟨⟩; omega)⟩
end Go.Proofs.YteghlbhpaaocmaaGreatDoor
