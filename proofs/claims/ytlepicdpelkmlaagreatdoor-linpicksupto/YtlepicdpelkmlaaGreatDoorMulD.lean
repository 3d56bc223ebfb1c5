/-
  Package rat: Add.
-/
import Derived.Test.YtlepicdpelkmlaaGreatDoorMulB
/- ==== RatAdd ==== -/
namespace Go.Proofs.YtlepicdpelkmlaaGreatDoor
open Go.RowKit
set_option linter.unusedVariables false
theorem mul_BB {a b K : Nat} (ha : (a : Int) < M.BB ^ K) (hb : (b : Int) < M.BB ^ K) : ((a * b : Nat) : Int) < M.BB ^ (2 * K) := by
  have e : M.BB ^ K = ((18446744073709551616 ^ K : Nat) : Int) := by rw [Int.natCast_pow]; rfl
  have e2 : M.BB ^ (2 * K) = ((18446744073709551616 ^ K * 18446744073709551616 ^ K : Nat) : Int) := by
    rw [← Nat.pow_add, show K + K = 2 * K from by omega, Int.natCast_pow]; rfl
  rw [e] at ha hb
  rw [e2]
  exact_mod_cast Nat.mul_lt_mul'' (by exact_mod_cast ha) (by exact_mod_cast hb)
theorem addS_BB {sa sb : Bool} {a b K : Nat} (ha : (a : Int) < M.BB ^ K) (hb : (b : Int) < M.BB ^ K) : (((M.addS sa a sb b).2 : Nat) : Int) < M.BB ^ (K + 1) := by
  have h := M.addS_le sa sb a b
  have e2 : M.BB ^ (K + 1) = M.BB ^ K * 18446744073709551616 := by rw [Int.pow_succ]; rfl
  rw [e2]
  omega
set_option maxRecDepth 100000 in
set_option maxHeartbeats 8000000 in
theorem padd_whole (w : World) (va vb : Value) (s1 s2 : Bool) (n1 d1 n2 d2 K : Nat) (ha : DenR w va s1 n1 d1) (hb : DenR w vb s2 n2 d2) (h1 : d1 = 0) (h2 : d2 = 0) (k1 : (n1 : Int) < M.BB ^ K) (k2 : (n2 : Int) < M.BB ^ K) (hK : K ≤ 4398046511104) (nz1 : n1 ≠ 0) (nz2 : n2 ≠ 0) :
    Calls Tryz.prog 54 #[va, vb] w fun e w' => (∃ r, e = .returned r ∧ DenR w' r ((M.addS s1 n1 s2 n2).1 && !decide ((M.addS s1 n1 s2 n2).2 = 0)) (M.addS s1 n1 s2 n2).2 0) ∧ Below w.heap.size w w' := by
  have ha' := hide ha
  have hb' := hide hb
  obtain ⟨x1, x2, x3, x4, y1, y2, y3, y4, rfl, a1, a2⟩ := ha
  obtain ⟨p1, p2, p3, p4, r1, r2, r3, r4, rfl, b1, b2⟩ := hb
  have z1 : (w.alloc (.cells #[.bool s1, .int .u64 x1, .slice x2 x3 x4, .int .u64 y1, .slice y2 y3 y4] 92)).heap.size = w.heap.size + 1 := by show (w.heap.push _).size = _; simp
  have z2 : ((w.alloc (.cells #[.bool s1, .int .u64 x1, .slice x2 x3 x4, .int .u64 y1, .slice y2 y3 y4] 92)).alloc (.cells #[.bool s2, .int .u64 p1, .slice p2 p3 p4, .int .u64 r1, .slice r2 r3 r4] 92)).heap.size = w.heap.size + 1 + 1 := by show ((w.heap.push _).push _).size = _; simp
  have P0 := kept_block (kept_block (heap_alloc_new w (.cells #[.bool s1, .int .u64 x1, .slice x2 x3 x4, .int .u64 y1, .slice y2 y3 y4] 92)) (alloc_below _ (.cells #[.bool s2, .int .u64 p1, .slice p2 p3 p4, .int .u64 r1, .slice r2 r3 r4] 92))) (alloc_below _ (.cells #[.bool false, .int .u64 0, .slice none 0 0, .int .u64 0, .slice none 0 0] 92))
  have Q0 := kept_block (heap_alloc_new (w.alloc (.cells #[.bool s1, .int .u64 x1, .slice x2 x3 x4, .int .u64 y1, .slice y2 y3 y4] 92)) (.cells #[.bool s2, .int .u64 p1, .slice p2 p3 p4, .int .u64 r1, .slice r2 r3 r4] 92)) (alloc_below _ (.cells #[.bool false, .int .u64 0, .slice none 0 0, .int .u64 0, .slice none 0 0] 92))
  have R0 := heap_alloc_new ((w.alloc (.cells #[.bool s1, .int .u64 x1, .slice x2 x3 x4, .int .u64 y1, .slice y2 y3 y4] 92)).alloc (.cells #[.bool s2, .int .u64 p1, .slice p2 p3 p4, .int .u64 r1, .slice r2 r3 r4] 92)) (.cells #[.bool false, .int .u64 0, .slice none 0 0, .int .u64 0, .slice none 0 0] 92)
  rw [z1] at Q0
  rw [z2] at R0
  have B0 := (alloc2_below w (.cells #[.bool s1, .int .u64 x1, .slice x2 x3 x4, .int .u64 y1, .slice y2 y3 y4] 92) (.cells #[.bool s2, .int .u64 p1, .slice p2 p3 p4, .int .u64 r1, .slice r2 r3 r4] 92)).then_below (alloc_below _ (.cells #[.bool false, .int .u64 0, .slice none 0 0, .int .u64 0, .slice none 0 0] 92))
  clear z1 z2
  obtain ⟨W0, hW0⟩ : ∃ W0, ((w.alloc (.cells #[.bool s1, .int .u64 x1, .slice x2 x3 x4, .int .u64 y1, .slice y2 y3 y4] 92)).alloc (.cells #[.bool s2, .int .u64 p1, .slice p2 p3 p4, .int .u64 r1, .slice r2 r3 r4] 92)).alloc (.cells #[.bool false, .int .u64 0, .slice none 0 0, .int .u64 0, .slice none 0 0] 92) = W0 := ⟨_, rfl⟩
  rw [hW0] at P0 Q0 R0 B0
  replace P0 := hide P0
  replace Q0 := hide Q0
  replace R0 := hide R0
  replace B0 := hide B0
  replace a1 := hide a1
  replace a2 := hide a2
  replace b1 := hide b1
  replace b2 := hide b2
  obtain ⟨⟨i0, i1, i2, i3, i4⟩, -⟩ := ratBox P0.out
  obtain ⟨⟨j0, j1, j2, j3, j4⟩, -⟩ := ratBox Q0.out
  subst h1
  subst h2
  replace k1 := hide k1
  replace k2 := hide k2
  have qz1 := isZero_calls W0 _ n1 (a1.out.below B0.out)
  have qz2 := fun W (hW : Below W0.heap.size W0 W) => isZero_calls W _ n2 ((b1.out.below B0.out).below hW)
  rw [decide_eq_false nz1] at qz1
  simp only [decide_eq_false nz2] at qz2
  replace qz1 := hide qz1
  replace qz2 := hide qz2
  go_enter Tryz.func54, Tryz.ntmps54
  go_upto_region 5 with (first
    | (go_at_call_of 57 (Value.agg #[.int .u64 x1, .slice x2 x3 x4]); refine qz1.out.mono ?_; rintro e wz ⟨rfl, bz⟩; obtain ⟨⟨zq0, zq1, zq2, zq3, zq4⟩, -⟩ := ratBox (kept_block Q0.out bz); replace bz := hide bz)
    | (go_at_call_of 57 (Value.agg #[.int .u64 p1, .slice p2 p3 p4]); refine (qz2.out _ bz.out).mono ?_; rintro e W9 ⟨rfl, by9⟩; replace by9 := hide (bz.out.then_below by9)))
  clear i0 i1 i2 i3 i4 j0 j1 j2 j3 j4 zq0 zq1 zq2 zq3 zq4 hW0 qz1 qz2 nz1 nz2
  replace P0 := hide (kept_block P0.out by9.out)
  replace Q0 := hide (kept_block Q0.out by9.out)
  replace R0 := hide (kept_block R0.out by9.out)
  replace B0 := hide (B0.out.then_below by9.out)
  clear by9 bz
  obtain ⟨⟨i0, i1, i2, i3, i4⟩, -⟩ := ratBox P0.out
  obtain ⟨⟨j0, j1, j2, j3, j4⟩, -⟩ := ratBox Q0.out
  go_wp2_with (first
    | (go_at_call_of 62 (Value.agg #[.bool s1, .int .u64 x1, .slice x2 x3 x4, .int .u64 y1, .slice y2 y3 y4]); refine (isWhole_calls _ _ s1 n1 0 (ha'.out.below B0.out)).mono ?_; rintro e wa ⟨rfl, ba⟩; obtain ⟨⟨t0, t1, t2, t3, t4⟩, -⟩ := ratBox (kept_block Q0.out ba); replace ba := hide ba)
    | (go_at_call_of 62 (Value.agg #[.bool s2, .int .u64 p1, .slice p2 p3 p4, .int .u64 r1, .slice r2 r3 r4]); refine (isWhole_calls _ _ s2 n2 0 ((hb'.out.below B0.out).below ba.out)).mono ?_; rintro e wb ⟨rfl, bb⟩; replace bb := hide (ba.out.then_below bb); obtain ⟨⟨u0, u1, u2, u3, u4⟩, -⟩ := ratBox (kept_block P0.out bb.out); obtain ⟨⟨v0, v1, v2, v3, v4⟩, -⟩ := ratBox (kept_block Q0.out bb.out))
    | (go_at_call 72; refine (addSigned_calls _ s1 s2 _ _ n1 n2 K ((a1.out.below B0.out).below bb.out) ((b1.out.below B0.out).below bb.out) k1.out k2.out hK).mono ?_; rintro e wc ⟨⟨rc, rfl, nc⟩, bc⟩; obtain ⟨c1, c2, c3, c4, rfl⟩ := nc.shape2; replace nc := hide nc; replace bc := hide (bb.out.then_below bc))
    | (go_at_call 71; refine (whole_calls _ (M.addS s1 n1 s2 n2).1 _ (M.addS s1 n1 s2 n2).2 nc.out).mono ?_; rintro e wd ⟨⟨rd, rfl, md⟩, bd⟩; obtain ⟨e1, e2, e3, e4, g1, g2, g3, g4, rfl, m1, m2⟩ := md; have R1 := hide (kept_block R0.out (bc.out.then_below bd)); obtain ⟨⟨w0, w1, w2, w3, w4⟩, f0, f1, f2, f3, f4⟩ := ratBox R1.out; replace m1 := hide m1; replace m2 := hide m2; replace bd := hide (bc.out.then_below bd)))
  generalize hsb : ((M.addS s1 n1 s2 n2).1 && !decide ((M.addS s1 n1 s2 n2).2 = 0)) = sb at *
  refine bodyPost_ret (v := .agg #[.bool sb, .int .u64 e1, .slice e2 e3 e4, .int .u64 g1, .slice g2 g3 g4]) (by simp [results, Tryz.results54, go_sem, w0, w1, w2, w3, w4]) rfl ?_
  have q := set5 wd (w.heap.size + 1 + 1) (.bool sb) (.int .u64 e1) (.slice e2 e3 e4) (.int .u64 g1) (.slice g2 g3 g4)
  exact ⟨⟨_, rfl, DenR.make m1.out m2.out R1.out (nopair5 _ _ _ _ _ _ _ _ _) q⟩, (B0.out.then_below bd.out).then_grown q (by rintro g ⟨⟩; omega)⟩
set_option maxRecDepth 100000 in
set_option maxHeartbeats 8000000 in
theorem padd_zero1 (w : World) (va vb : Value) (s1 s2 : Bool) (n1 d1 n2 d2 : Nat) (ha : DenR w va s1 n1 d1) (hb : DenR w vb s2 n2 d2) (nz1 : n1 = 0) :
    Calls Tryz.prog 54 #[va, vb] w fun e w' => (∃ r, e = .returned r ∧ DenR w' r s2 n2 d2) ∧ Below w.heap.size w w' := by
  have ha' := hide ha
  have hb' := hide hb
  obtain ⟨x1, x2, x3, x4, y1, y2, y3, y4, rfl, a1, a2⟩ := ha
  obtain ⟨p1, p2, p3, p4, r1, r2, r3, r4, rfl, b1, b2⟩ := hb
  have z1 : (w.alloc (.cells #[.bool s1, .int .u64 x1, .slice x2 x3 x4, .int .u64 y1, .slice y2 y3 y4] 92)).heap.size = w.heap.size + 1 := by show (w.heap.push _).size = _; simp
  have z2 : ((w.alloc (.cells #[.bool s1, .int .u64 x1, .slice x2 x3 x4, .int .u64 y1, .slice y2 y3 y4] 92)).alloc (.cells #[.bool s2, .int .u64 p1, .slice p2 p3 p4, .int .u64 r1, .slice r2 r3 r4] 92)).heap.size = w.heap.size + 1 + 1 := by show ((w.heap.push _).push _).size = _; simp
  have P0 := kept_block (kept_block (heap_alloc_new w (.cells #[.bool s1, .int .u64 x1, .slice x2 x3 x4, .int .u64 y1, .slice y2 y3 y4] 92)) (alloc_below _ (.cells #[.bool s2, .int .u64 p1, .slice p2 p3 p4, .int .u64 r1, .slice r2 r3 r4] 92))) (alloc_below _ (.cells #[.bool false, .int .u64 0, .slice none 0 0, .int .u64 0, .slice none 0 0] 92))
  have Q0 := kept_block (heap_alloc_new (w.alloc (.cells #[.bool s1, .int .u64 x1, .slice x2 x3 x4, .int .u64 y1, .slice y2 y3 y4] 92)) (.cells #[.bool s2, .int .u64 p1, .slice p2 p3 p4, .int .u64 r1, .slice r2 r3 r4] 92)) (alloc_below _ (.cells #[.bool false, .int .u64 0, .slice none 0 0, .int .u64 0, .slice none 0 0] 92))
  have R0 := heap_alloc_new ((w.alloc (.cells #[.bool s1, .int .u64 x1, .slice x2 x3 x4, .int .u64 y1, .slice y2 y3 y4] 92)).alloc (.cells #[.bool s2, .int .u64 p1, .slice p2 p3 p4, .int .u64 r1, .slice r2 r3 r4] 92)) (.cells #[.bool false, .int .u64 0, .slice none 0 0, .int .u64 0, .slice none 0 0] 92)
  rw [z1] at Q0
  rw [z2] at R0
  have B0 := (alloc2_below w (.cells #[.bool s1, .int .u64 x1, .slice x2 x3 x4, .int .u64 y1, .slice y2 y3 y4] 92) (.cells #[.bool s2, .int .u64 p1, .slice p2 p3 p4, .int .u64 r1, .slice r2 r3 r4] 92)).then_below (alloc_below _ (.cells #[.bool false, .int .u64 0, .slice none 0 0, .int .u64 0, .slice none 0 0] 92))
  clear z1 z2
  obtain ⟨W0, hW0⟩ : ∃ W0, ((w.alloc (.cells #[.bool s1, .int .u64 x1, .slice x2 x3 x4, .int .u64 y1, .slice y2 y3 y4] 92)).alloc (.cells #[.bool s2, .int .u64 p1, .slice p2 p3 p4, .int .u64 r1, .slice r2 r3 r4] 92)).alloc (.cells #[.bool false, .int .u64 0, .slice none 0 0, .int .u64 0, .slice none 0 0] 92) = W0 := ⟨_, rfl⟩
  rw [hW0] at P0 Q0 R0 B0
  replace P0 := hide P0
  replace Q0 := hide Q0
  replace R0 := hide R0
  replace B0 := hide B0
  replace a1 := hide a1
  replace a2 := hide a2
  replace b1 := hide b1
  replace b2 := hide b2
  obtain ⟨⟨i0, i1, i2, i3, i4⟩, -⟩ := ratBox P0.out
  obtain ⟨⟨j0, j1, j2, j3, j4⟩, -⟩ := ratBox Q0.out
  have qz1 := isZero_calls W0 _ n1 (a1.out.below B0.out)
  rw [decide_eq_true nz1] at qz1
  replace qz1 := hide qz1
  clear nz1
  go_enter Tryz.func54, Tryz.ntmps54
  go_wp2_with (go_at_call 57; refine qz1.out.mono ?_; rintro e wz ⟨rfl, bz⟩; obtain ⟨⟨zr0, zr1, zr2, zr3, zr4⟩, zf0, zf1, zf2, zf3, zf4⟩ := ratBox (kept_block R0.out bz); obtain ⟨⟨zq0, zq1, zq2, zq3, zq4⟩, -⟩ := ratBox (kept_block Q0.out bz); have R1 := hide (kept_block R0.out bz); replace bz := hide bz)
  refine bodyPost_ret (v := .agg #[.bool s2, .int .u64 p1, .slice p2 p3 p4, .int .u64 r1, .slice r2 r3 r4]) (by simp [results, Tryz.results54, go_sem, zr0, zr1, zr2, zr3, zr4]) rfl ?_
  have q := set5 wz (w.heap.size + 1 + 1) (.bool s2) (.int .u64 p1) (.slice p2 p3 p4) (.int .u64 r1) (.slice r2 r3 r4)
  exact ⟨⟨_, rfl, DenR.make ((b1.out.below B0.out).below bz.out) ((b2.out.below B0.out).below bz.out) R1.out (nopair5 _ _ _ _ _ _ _ _ _) q⟩, (B0.out.then_below bz.out).then_grown q (by rintro g ⟨⟩; omega)⟩
set_option maxRecDepth 100000 in
set_option maxHeartbeats 8000000 in
theorem padd_zero2 (w : World) (va vb : Value) (s1 s2 : Bool) (n1 d1 n2 d2 : Nat) (ha : DenR w va s1 n1 d1) (hb : DenR w vb s2 n2 d2) (nz1 : n1 ≠ 0) (nz2 : n2 = 0) :
    Calls Tryz.prog 54 #[va, vb] w fun e w' => (∃ r, e = .returned r ∧ DenR w' r s1 n1 d1) ∧ Below w.heap.size w w' := by
  have ha' := hide ha
  have hb' := hide hb
  obtain ⟨x1, x2, x3, x4, y1, y2, y3, y4, rfl, a1, a2⟩ := ha
  obtain ⟨p1, p2, p3, p4, r1, r2, r3, r4, rfl, b1, b2⟩ := hb
  have z1 : (w.alloc (.cells #[.bool s1, .int .u64 x1, .slice x2 x3 x4, .int .u64 y1, .slice y2 y3 y4] 92)).heap.size = w.heap.size + 1 := by show (w.heap.push _).size = _; simp
  have z2 : ((w.alloc (.cells #[.bool s1, .int .u64 x1, .slice x2 x3 x4, .int .u64 y1, .slice y2 y3 y4] 92)).alloc (.cells #[.bool s2, .int .u64 p1, .slice p2 p3 p4, .int .u64 r1, .slice r2 r3 r4] 92)).heap.size = w.heap.size + 1 + 1 := by show ((w.heap.push _).push _).size = _; simp
  have P0 := kept_block (kept_block (heap_alloc_new w (.cells #[.bool s1, .int .u64 x1, .slice x2 x3 x4, .int .u64 y1, .slice y2 y3 y4] 92)) (alloc_below _ (.cells #[.bool s2, .int .u64 p1, .slice p2 p3 p4, .int .u64 r1, .slice r2 r3 r4] 92))) (alloc_below _ (.cells #[.bool false, .int .u64 0, .slice none 0 0, .int .u64 0, .slice none 0 0] 92))
  have Q0 := kept_block (heap_alloc_new (w.alloc (.cells #[.bool s1, .int .u64 x1, .slice x2 x3 x4, .int .u64 y1, .slice y2 y3 y4] 92)) (.cells #[.bool s2, .int .u64 p1, .slice p2 p3 p4, .int .u64 r1, .slice r2 r3 r4] 92)) (alloc_below _ (.cells #[.bool false, .int .u64 0, .slice none 0 0, .int .u64 0, .slice none 0 0] 92))
  have R0 := heap_alloc_new ((w.alloc (.cells #[.bool s1, .int .u64 x1, .slice x2 x3 x4, .int .u64 y1, .slice y2 y3 y4] 92)).alloc (.cells #[.bool s2, .int .u64 p1, .slice p2 p3 p4, .int .u64 r1, .slice r2 r3 r4] 92)) (.cells #[.bool false, .int .u64 0, .slice none 0 0, .int .u64 0, .slice none 0 0] 92)
  rw [z1] at Q0
  rw [z2] at R0
  have B0 := (alloc2_below w (.cells #[.bool s1, .int .u64 x1, .slice x2 x3 x4, .int .u64 y1, .slice y2 y3 y4] 92) (.cells #[.bool s2, .int .u64 p1, .slice p2 p3 p4, .int .u64 r1, .slice r2 r3 r4] 92)).then_below (alloc_below _ (.cells #[.bool false, .int .u64 0, .slice none 0 0, .int .u64 0, .slice none 0 0] 92))
  clear z1 z2
  obtain ⟨W0, hW0⟩ : ∃ W0, ((w.alloc (.cells #[.bool s1, .int .u64 x1, .slice x2 x3 x4, .int .u64 y1, .slice y2 y3 y4] 92)).alloc (.cells #[.bool s2, .int .u64 p1, .slice p2 p3 p4, .int .u64 r1, .slice r2 r3 r4] 92)).alloc (.cells #[.bool false, .int .u64 0, .slice none 0 0, .int .u64 0, .slice none 0 0] 92) = W0 := ⟨_, rfl⟩
  rw [hW0] at P0 Q0 R0 B0
  replace P0 := hide P0
  replace Q0 := hide Q0
  replace R0 := hide R0
  replace B0 := hide B0
  replace a1 := hide a1
  replace a2 := hide a2
  replace b1 := hide b1
  replace b2 := hide b2
  obtain ⟨⟨i0, i1, i2, i3, i4⟩, -⟩ := ratBox P0.out
  obtain ⟨⟨j0, j1, j2, j3, j4⟩, -⟩ := ratBox Q0.out
  have qz1 := isZero_calls W0 _ n1 (a1.out.below B0.out)
  have qz2 := fun W (hW : Below W0.heap.size W0 W) => isZero_calls W _ n2 ((b1.out.below B0.out).below hW)
  rw [decide_eq_false nz1] at qz1
  simp only [decide_eq_true nz2] at qz2
  replace qz1 := hide qz1
  replace qz2 := hide qz2
  clear nz1 nz2
  go_enter Tryz.func54, Tryz.ntmps54
  go_wp2_with (first
    | (go_at_call_of 57 (Value.agg #[.int .u64 x1, .slice x2 x3 x4]); refine qz1.out.mono ?_; rintro e wy ⟨rfl, by9⟩; obtain ⟨⟨zq0, zq1, zq2, zq3, zq4⟩, -⟩ := ratBox (kept_block Q0.out by9); replace by9 := hide by9)
    | (go_at_call_of 57 (Value.agg #[.int .u64 p1, .slice p2 p3 p4]); refine (qz2.out _ by9.out).mono ?_; rintro e wz ⟨rfl, bz⟩; replace bz := hide (by9.out.then_below bz); have R1 := hide (kept_block R0.out bz.out); obtain ⟨⟨zr0, zr1, zr2, zr3, zr4⟩, zf0, zf1, zf2, zf3, zf4⟩ := ratBox R1.out; obtain ⟨⟨zp0, zp1, zp2, zp3, zp4⟩, -⟩ := ratBox (kept_block P0.out bz.out)))
  refine bodyPost_ret (v := .agg #[.bool s1, .int .u64 x1, .slice x2 x3 x4, .int .u64 y1, .slice y2 y3 y4]) (by simp [results, Tryz.results54, go_sem, zr0, zr1, zr2, zr3, zr4]) rfl ?_
  have q := set5 wz (w.heap.size + 1 + 1) (.bool s1) (.int .u64 x1) (.slice x2 x3 x4) (.int .u64 y1) (.slice y2 y3 y4)
  exact ⟨⟨_, rfl, DenR.make ((a1.out.below B0.out).below bz.out) ((a2.out.below B0.out).below bz.out) R1.out (nopair5 _ _ _ _ _ _ _ _ _) q⟩, (B0.out.then_below bz.out).then_grown q (by rintro g ⟨⟩; omega)⟩
theorem over_ra (w : World) (u v : Value) (n m r K : Nat) (hr : r = n / m) (hu : Den w u n) (hv : Den w v m) (hn : (n : Int) < M.BB ^ K) (hm0 : m ≠ 0) (hK : K ≤ 4398046511104) :
    Calls Tryz.prog 74 #[u, v] w fun e w' => (∃ q, e = .returned q ∧ Den w' q r) ∧ Below w.heap.size w w' := by
  rw [hr]
  exact over_calls w u v n m K hu hv hn hm0 hK
theorem addSigned_st (w : World) (na nb : Bool) (u v : Value) (a b K : Nat) (sn : Bool) (s : Nat) (hsn : sn = (M.addS na a nb b).1) (hs : s = (M.addS na a nb b).2) (hu : Den w u a) (hv : Den w v b) (ka : (a : Int) < M.BB ^ K) (kb : (b : Int) < M.BB ^ K) (hK : K ≤ 4398046511104) :
    Calls Tryz.prog 72 #[.bool na, u, .bool nb, v] w fun e w' => (∃ r, e = .returned (.tuple #[.bool sn, r]) ∧ Den w' r s) ∧ Below w.heap.size w w' := by
  rw [hsn, hs]
  exact addSigned_calls w na nb u v a b K hu hv ka kb hK
set_option maxRecDepth 100000 in
set_option maxHeartbeats 32000000 in
theorem padd_frac (w : World) (va vb : Value) (s1 s2 : Bool) (n1 d1 n2 d2 K : Nat) (ha : DenR w va s1 n1 d1) (hb : DenR w vb s2 n2 d2) (hd : ¬ (d1 = 0 ∧ d2 = 0)) (k1 : (n1 : Int) < M.BB ^ K) (l1 : ((lowN d1 : Nat) : Int) < M.BB ^ K) (k2 : (n2 : Int) < M.BB ^ K) (l2 : ((lowN d2 : Nat) : Int) < M.BB ^ K) (hK : 2 * K + 1 ≤ 4398046511104) (hT : Tab w) (nz1 : n1 ≠ 0) (nz2 : n2 ≠ 0)
    (g s t ra rb : Nat) (sn : Bool) (hg : g = Nat.gcd (lowN d1) (lowN d2)) (hra : ra = lowN d1 / g) (hrb : rb = lowN d2 / g) (hsn : sn = (M.addS s1 (n1 * rb) s2 (n2 * ra)).1) (hs : s = (M.addS s1 (n1 * rb) s2 (n2 * ra)).2) (ht : t = Nat.gcd s g) :
    Calls Tryz.prog 54 #[va, vb] w fun e w' => (∃ r, e = .returned r ∧ Low w' r sn (s / t) (ra * (lowN d2 / t))) ∧ Below w.heap.size w w' := by
  have ha' := hide ha
  have hb' := hide hb
  obtain ⟨x1, x2, x3, x4, y1, y2, y3, y4, rfl, a1, a2⟩ := ha
  obtain ⟨p1, p2, p3, p4, r1, r2, r3, r4, rfl, b1, b2⟩ := hb
  have z1 : (w.alloc (.cells #[.bool s1, .int .u64 x1, .slice x2 x3 x4, .int .u64 y1, .slice y2 y3 y4] 92)).heap.size = w.heap.size + 1 := by show (w.heap.push _).size = _; simp
  have z2 : ((w.alloc (.cells #[.bool s1, .int .u64 x1, .slice x2 x3 x4, .int .u64 y1, .slice y2 y3 y4] 92)).alloc (.cells #[.bool s2, .int .u64 p1, .slice p2 p3 p4, .int .u64 r1, .slice r2 r3 r4] 92)).heap.size = w.heap.size + 1 + 1 := by show ((w.heap.push _).push _).size = _; simp
  have P0 := kept_block (kept_block (heap_alloc_new w (.cells #[.bool s1, .int .u64 x1, .slice x2 x3 x4, .int .u64 y1, .slice y2 y3 y4] 92)) (alloc_below _ (.cells #[.bool s2, .int .u64 p1, .slice p2 p3 p4, .int .u64 r1, .slice r2 r3 r4] 92))) (alloc_below _ (.cells #[.bool false, .int .u64 0, .slice none 0 0, .int .u64 0, .slice none 0 0] 92))
  have Q0 := kept_block (heap_alloc_new (w.alloc (.cells #[.bool s1, .int .u64 x1, .slice x2 x3 x4, .int .u64 y1, .slice y2 y3 y4] 92)) (.cells #[.bool s2, .int .u64 p1, .slice p2 p3 p4, .int .u64 r1, .slice r2 r3 r4] 92)) (alloc_below _ (.cells #[.bool false, .int .u64 0, .slice none 0 0, .int .u64 0, .slice none 0 0] 92))
  have R0 := heap_alloc_new ((w.alloc (.cells #[.bool s1, .int .u64 x1, .slice x2 x3 x4, .int .u64 y1, .slice y2 y3 y4] 92)).alloc (.cells #[.bool s2, .int .u64 p1, .slice p2 p3 p4, .int .u64 r1, .slice r2 r3 r4] 92)) (.cells #[.bool false, .int .u64 0, .slice none 0 0, .int .u64 0, .slice none 0 0] 92)
  rw [z1] at Q0
  rw [z2] at R0
  have B0 := (alloc2_below w (.cells #[.bool s1, .int .u64 x1, .slice x2 x3 x4, .int .u64 y1, .slice y2 y3 y4] 92) (.cells #[.bool s2, .int .u64 p1, .slice p2 p3 p4, .int .u64 r1, .slice r2 r3 r4] 92)).then_below (alloc_below _ (.cells #[.bool false, .int .u64 0, .slice none 0 0, .int .u64 0, .slice none 0 0] 92))
  clear z1 z2
  obtain ⟨W0, hW0⟩ : ∃ W0, ((w.alloc (.cells #[.bool s1, .int .u64 x1, .slice x2 x3 x4, .int .u64 y1, .slice y2 y3 y4] 92)).alloc (.cells #[.bool s2, .int .u64 p1, .slice p2 p3 p4, .int .u64 r1, .slice r2 r3 r4] 92)).alloc (.cells #[.bool false, .int .u64 0, .slice none 0 0, .int .u64 0, .slice none 0 0] 92) = W0 := ⟨_, rfl⟩
  rw [hW0] at P0 Q0 R0 B0
  replace P0 := hide P0
  replace Q0 := hide Q0
  replace R0 := hide R0
  replace B0 := hide B0
  replace a1 := hide a1
  replace a2 := hide a2
  replace b1 := hide b1
  replace b2 := hide b2
  obtain ⟨⟨i0, i1, i2, i3, i4⟩, -⟩ := ratBox P0.out
  obtain ⟨⟨j0, j1, j2, j3, j4⟩, -⟩ := ratBox Q0.out
  have TT := hide hT
  have hg0 : Hid (g ≠ 0) := by show g ≠ 0; rw [hg]; exact Nat.ne_of_gt (Nat.gcd_pos_of_pos_right _ (lowN_pos d2))
  have ht0 : Hid (t ≠ 0) := by show t ≠ 0; rw [ht]; exact Nat.ne_of_gt (Nat.gcd_pos_of_pos_right _ (Nat.pos_of_ne_zero hg0.out))
  have kra : Hid ((ra : Int) < M.BB ^ K) := by show (ra : Int) < _; rw [hra]; exact div_BB l1
  have krb : Hid ((rb : Int) < M.BB ^ K) := by show (rb : Int) < _; rw [hrb]; exact div_BB l2
  have kg : Hid ((g : Int) < M.BB ^ (2 * K + 1)) := by
    show (g : Int) < _
    refine Int.lt_of_lt_of_le ?_ (M.pow_le M.BB_pos (by omega : K ≤ 2 * K + 1))
    refine Int.lt_of_le_of_lt ?_ l1
    rw [hg]
    exact_mod_cast Nat.gcd_le_left _ (lowN_pos d1)
  have km1 := hide (mul_BB k1 krb.out)
  have km2 := hide (mul_BB k2 kra.out)
  have ks : Hid ((s : Int) < M.BB ^ (2 * K + 1)) := by show (s : Int) < _; rw [hs]; exact addS_BB km1.out km2.out
  have kl2 : Hid (((lowN d2 / t : Nat) : Int) < M.BB ^ K) := div_BB l2
  have hKK : K ≤ 4398046511104 := by omega
  have hK2 : 2 * K ≤ 4398046511104 := by omega
  replace k1 := hide k1
  replace k2 := hide k2
  replace l1 := hide l1
  replace l2 := hide l2
  replace hg := hide hg
  replace hra := hide hra
  replace hrb := hide hrb
  replace hs := hide hs
  replace hsn := hide hsn
  replace ht := hide ht
  have HD := hide hd
  clear hd hT
  have qz1 := isZero_calls W0 _ n1 (a1.out.below B0.out)
  have qz2 := fun W (hW : Below W0.heap.size W0 W) => isZero_calls W _ n2 ((b1.out.below B0.out).below hW)
  rw [decide_eq_false nz1] at qz1
  simp only [decide_eq_false nz2] at qz2
  replace qz1 := hide qz1
  replace qz2 := hide qz2
  go_enter Tryz.func54, Tryz.ntmps54
  go_upto_region 5 with (first
    | (go_at_call_of 57 (Value.agg #[.int .u64 x1, .slice x2 x3 x4]); refine qz1.out.mono ?_; rintro e wz ⟨rfl, bz⟩; obtain ⟨⟨zq0, zq1, zq2, zq3, zq4⟩, -⟩ := ratBox (kept_block Q0.out bz); replace bz := hide bz)
    | (go_at_call_of 57 (Value.agg #[.int .u64 p1, .slice p2 p3 p4]); refine (qz2.out _ bz.out).mono ?_; rintro e W9 ⟨rfl, by9⟩; replace by9 := hide (bz.out.then_below by9)))
  clear i0 i1 i2 i3 i4 j0 j1 j2 j3 j4 zq0 zq1 zq2 zq3 zq4 hW0 qz1 qz2 nz1 nz2
  replace P0 := hide (kept_block P0.out by9.out)
  replace Q0 := hide (kept_block Q0.out by9.out)
  replace R0 := hide (kept_block R0.out by9.out)
  replace B0 := hide (B0.out.then_below by9.out)
  clear by9 bz
  obtain ⟨⟨i0, i1, i2, i3, i4⟩, -⟩ := ratBox P0.out
  obtain ⟨⟨j0, j1, j2, j3, j4⟩, -⟩ := ratBox Q0.out
  go_cut [23] (fun sx wx => sx = .bool false ∧ Hid (Below W9.heap.size W9 wx))
  case first =>
    by_cases h1 : d1 = 0
    · have h2 : d2 ≠ 0 := fun e => HD.out ⟨h1, e⟩
      have q1 := hide (isWhole_calls W9 _ s1 n1 d1 (ha'.out.below B0.out))
      have q2 := hide (fun W (hW : Below W9.heap.size W9 W) => isWhole_calls W _ s2 n2 d2 ((hb'.out.below B0.out).below hW))
      rw [decide_eq_true h1] at q1
      rw [decide_eq_false h2] at q2
      clear h1 h2
      go_wp2_with (first
        | (go_at_call_of 62 (Value.agg #[.bool s1, .int .u64 x1, .slice x2 x3 x4, .int .u64 y1, .slice y2 y3 y4]); refine q1.out.mono ?_; rintro e wa ⟨rfl, ba⟩; obtain ⟨⟨t0, t1, t2, t3, t4⟩, -⟩ := ratBox (kept_block Q0.out ba); replace ba := hide ba)
        | (go_at_call_of 62 (Value.agg #[.bool s2, .int .u64 p1, .slice p2 p3 p4, .int .u64 r1, .slice r2 r3 r4]); refine (q2.out _ ba.out).mono ?_; rintro e wb ⟨rfl, bb⟩; replace bb := hide (ba.out.then_below bb)))
      go_meet
      exact ⟨rfl, bb⟩
    · have q1 := hide (isWhole_calls W9 _ s1 n1 d1 (ha'.out.below B0.out))
      rw [decide_eq_false h1] at q1
      clear h1
      go_wp2_with (first
        | (go_at_call_of 62 (Value.agg #[.bool s1, .int .u64 x1, .slice x2 x3 x4, .int .u64 y1, .slice y2 y3 y4]); refine q1.out.mono ?_; rintro e wa ⟨rfl, ba⟩; replace ba := hide ba))
      go_meet
      exact ⟨rfl, ba⟩
  case rest =>
  obtain ⟨rfl, B1⟩ := hcut
  rename World => W1
  clear i0 i1 i2 i3 i4 j0 j1 j2 j3 j4 HD
  have BW := hide (B0.out.then_below B1.out)
  have P1 := hide (kept_block P0.out B1.out)
  have Q1 := hide (kept_block Q0.out B1.out)
  have R1 := hide (kept_block R0.out B1.out)
  have HA := hide (ha'.out.below BW.out)
  have HB := hide (hb'.out.below BW.out)
  have A1 := hide (a1.out.below BW.out)
  have N1 := hide (b1.out.below BW.out)
  have T1 := hide (TT.out.below BW.out)
  clear P0 Q0 R0 B0 B1 ha' hb' a1 a2 b1 b2 TT
  go_upto_region 7 with fail
  obtain ⟨⟨i0, i1, i2, i3, i4⟩, -⟩ := ratBox P1.out
  obtain ⟨⟨j0, j1, j2, j3, j4⟩, -⟩ := ratBox Q1.out
  have S0 := hide (And.intro i0 (And.intro i1 (And.intro i2 (And.intro i3 (And.intro i4 (And.intro j0 (And.intro j1 (And.intro j2 (And.intro j3 (And.intro j4 (Below.refl W1.heap.size W1)))))))))))
  clear i0 i1 i2 i3 i4 j0 j1 j2 j3 j4
  go_cut [5, 6] (fun sx sy wx => ∃ (gx gy : Nat) (q1 : Int) (q2 : Option Addr) (q3 q4 : Nat) (r1 : Int) (r2 : Option Addr) (r3 r4 : Nat), sx = .pointer (some ⟨gx, 0, none⟩) ∧ sy = .pointer (some ⟨gy, 0, none⟩) ∧ Hid (TwoB W1 wx gx gy q1 q2 q3 q4 r1 r2 r3 r4 (lowN d1) (lowN d2)))
  case first =>
    go_region_held3
      (fun w' => w'.cell? ⟨w.heap.size, 0, none⟩ = some (.bool s1) ∧ w'.cell? ⟨w.heap.size, 1, none⟩ = some (.int .u64 x1) ∧ w'.cell? ⟨w.heap.size, 2, none⟩ = some (.slice x2 x3 x4) ∧ w'.cell? ⟨w.heap.size, 3, none⟩ = some (.int .u64 y1) ∧ w'.cell? ⟨w.heap.size, 4, none⟩ = some (.slice y2 y3 y4) ∧ w'.cell? ⟨w.heap.size + 1, 0, none⟩ = some (.bool s2) ∧ w'.cell? ⟨w.heap.size + 1, 1, none⟩ = some (.int .u64 p1) ∧ w'.cell? ⟨w.heap.size + 1, 2, none⟩ = some (.slice p2 p3 p4) ∧ w'.cell? ⟨w.heap.size + 1, 3, none⟩ = some (.int .u64 r1) ∧ w'.cell? ⟨w.heap.size + 1, 4, none⟩ = some (.slice r2 r3 r4) ∧ Below W1.heap.size W1 w')
      ((refine cells10_keep (w := W1) S0.out ?_; repeat (first | with_reducible exact Below.refl _ _ | with_reducible refine Below.drew ?_ | with_reducible refine Below.then_below ?_ (alloc_below _ _) | with_reducible refine Below.then_below ?_ ba | with_reducible refine Below.then_below ?_ bb | (with_reducible refine Below.then_grown ?_ (box_grown _ _ _ _) (by rintro g ⟨⟩; first | exact Nat.le_refl _ | omega)))))
      (first
        | (go_at_call_of 60 (Value.agg #[.bool s1, .int .u64 x1, .slice x2 x3 x4, .int .u64 y1, .slice y2 y3 y4]); refine (lower_low _ _ s1 n1 d1 (HA.out.below (by repeat (first | with_reducible exact Below.refl _ _ | with_reducible refine Below.drew ?_ | with_reducible refine Below.then_below ?_ (alloc_below _ _))))).mono ?_; rintro e wa ⟨⟨ra, rfl, da⟩, ba⟩; obtain ⟨u1, u2, u3, u4, rfl⟩ := da.shape2; have Ba : Below W1.heap.size W1 wa := (by repeat (first | with_reducible exact Below.refl _ _ | with_reducible refine Below.drew ?_ | with_reducible refine Below.then_below ?_ (alloc_below _ _) | with_reducible refine Below.then_below ?_ ba)); have sa : W1.heap.size ≤ wa.heap.size := Ba.size; (first | (have AZa0 : wa.heap[W1.heap.size]? = some (.cells #[.int .u64 0, .slice none 0 0] 90 (0, 0)) := kept_block (by first | exact heap_alloc_new W1 (.cells #[.int .u64 0, .slice none 0 0] 90) | exact (two_new W1 (.cells #[.int .u64 0, .slice none 0 0] 90) (.cells #[.int .u64 0, .slice none 0 0] 90)).1) ba; have lz0 : W1.heap.size < wa.heap.size := (Array.getElem?_eq_some_iff.1 AZa0).1) | skip); (first | (have AZa1 : wa.heap[W1.heap.size + 1]? = some (.cells #[.int .u64 0, .slice none 0 0] 90 (0, 0)) := kept_block (by exact (two_new W1 (.cells #[.int .u64 0, .slice none 0 0] 90) (.cells #[.int .u64 0, .slice none 0 0] 90)).2.1) ba; have lz1 : W1.heap.size + 1 < wa.heap.size := (Array.getElem?_eq_some_iff.1 AZa1).1) | skip))
        | (go_at_call_of 60 (Value.agg #[.bool s2, .int .u64 p1, .slice p2 p3 p4, .int .u64 r1, .slice r2 r3 r4]); refine (lower_low _ _ s2 n2 d2 (HB.out.below (by repeat (first | with_reducible exact Below.refl _ _ | with_reducible refine Below.drew ?_ | with_reducible refine Below.then_below ?_ (alloc_below _ _) | with_reducible refine Below.then_below ?_ ba)))).mono ?_; rintro e wb ⟨⟨rb, rfl, db⟩, bb⟩; obtain ⟨v1, v2, v3, v4, rfl⟩ := db.shape2; have BAB : Below wa.heap.size wa wb := (by repeat (first | with_reducible exact Below.refl _ _ | with_reducible refine Below.drew ?_ | with_reducible refine Below.then_below ?_ (alloc_below _ _) | with_reducible refine Below.then_below ?_ bb)); have bw : Below W1.heap.size W1 wb := Ba.then_below BAB; have dq := da.below BAB; have sb : wa.heap.size ≤ wb.heap.size := BAB.size; (first | (have AZ0 : wb.heap[W1.heap.size]? = some (.cells #[.int .u64 0, .slice none 0 0] 90 (0, 0)) := kept_block AZa0 BAB; obtain ⟨ta0, ta1, taf0, taf1⟩ := box_facts AZ0; have lAZ0 : W1.heap.size < wb.heap.size := (Array.getElem?_eq_some_iff.1 AZ0).1; have nAZ0 : W1.heap.size ≠ wb.heap.size := Nat.ne_of_lt lAZ0; have mAZ0 : wb.heap.size ≠ W1.heap.size := Nat.ne_of_gt lAZ0) | skip); (first | (have AZ1 : wb.heap[W1.heap.size + 1]? = some (.cells #[.int .u64 0, .slice none 0 0] 90 (0, 0)) := kept_block AZa1 BAB; obtain ⟨tb0, tb1, tbf0, tbf1⟩ := box_facts AZ1; have lAZ1 : W1.heap.size + 1 < wb.heap.size := (Array.getElem?_eq_some_iff.1 AZ1).1; have nAZ1 : W1.heap.size + 1 ≠ wb.heap.size := Nat.ne_of_lt lAZ1; have mAZ1 : wb.heap.size ≠ W1.heap.size + 1 := Nat.ne_of_gt lAZ1) | skip); (first | (have AY0 : wb.heap[wa.heap.size]? = some (.cells #[.int .u64 0, .slice none 0 0] 90 (0, 0)) := kept_block (by first | exact heap_alloc_new wa (.cells #[.int .u64 0, .slice none 0 0] 90) | exact (two_new wa (.cells #[.int .u64 0, .slice none 0 0] 90) (.cells #[.int .u64 0, .slice none 0 0] 90)).1) bb; obtain ⟨tc0, tc1, tcf0, tcf1⟩ := box_facts AY0; have lAY0 : wa.heap.size < wb.heap.size := (Array.getElem?_eq_some_iff.1 AY0).1; have nAY0 : wa.heap.size ≠ wb.heap.size := Nat.ne_of_lt lAY0; have mAY0 : wb.heap.size ≠ wa.heap.size := Nat.ne_of_gt lAY0) | skip); (first | (have AY1 : wb.heap[wa.heap.size + 1]? = some (.cells #[.int .u64 0, .slice none 0 0] 90 (0, 0)) := kept_block (by exact (two_new wa (.cells #[.int .u64 0, .slice none 0 0] 90) (.cells #[.int .u64 0, .slice none 0 0] 90)).2.1) bb; obtain ⟨td0, td1, tdf0, tdf1⟩ := box_facts AY1; have lAY1 : wa.heap.size + 1 < wb.heap.size := (Array.getElem?_eq_some_iff.1 AY1).1; have nAY1 : wa.heap.size + 1 ≠ wb.heap.size := Nat.ne_of_lt lAY1; have mAY1 : wb.heap.size ≠ wa.heap.size + 1 := Nat.ne_of_gt lAY1) | skip); (first | (have nl : W1.heap.size ≠ wa.heap.size := Nat.ne_of_lt lz0; have ml : wa.heap.size ≠ W1.heap.size := Nat.ne_of_gt lz0) | skip)))
    all_goals (go_wp2_with fail; go_meet)
    all_goals first
      | with_reducible exact ⟨_, _, u1, u2, u3, u4, v1, v2, v3, v4, rfl, rfl, hide (tb_alloc bw dq db)⟩
      | with_reducible exact ⟨_, _, u1, u2, u3, u4, v1, v2, v3, v4, rfl, rfl, hide ((tb_alloc bw db dq).swap)⟩
      | with_reducible exact ⟨_, _, u1, u2, u3, u4, v1, v2, v3, v4, rfl, rfl, hide (tb_set_alloc bw dq db AZ0 (by omega))⟩
      | with_reducible exact ⟨_, _, u1, u2, u3, u4, v1, v2, v3, v4, rfl, rfl, hide ((tb_set_alloc bw db dq AZ0 (by omega)).swap)⟩
      | with_reducible exact ⟨_, _, u1, u2, u3, u4, v1, v2, v3, v4, rfl, rfl, hide (tb_set_alloc bw dq db AY0 (by omega))⟩
      | with_reducible exact ⟨_, _, u1, u2, u3, u4, v1, v2, v3, v4, rfl, rfl, hide ((tb_set_alloc bw db dq AY0 (by omega)).swap)⟩
      | with_reducible exact ⟨_, _, u1, u2, u3, u4, v1, v2, v3, v4, rfl, rfl, hide (tb_set_set bw dq db AZ0 AZ1 (by omega) (by omega) (by omega))⟩
      | with_reducible exact ⟨_, _, u1, u2, u3, u4, v1, v2, v3, v4, rfl, rfl, hide ((tb_set_set bw db dq AZ1 AZ0 (by omega) (by omega) (by omega)).swap)⟩
      | with_reducible exact ⟨_, _, u1, u2, u3, u4, v1, v2, v3, v4, rfl, rfl, hide (tb_set_set bw dq db AZ1 AZ0 (by omega) (by omega) (by omega))⟩
      | with_reducible exact ⟨_, _, u1, u2, u3, u4, v1, v2, v3, v4, rfl, rfl, hide ((tb_set_set bw db dq AZ0 AZ1 (by omega) (by omega) (by omega)).swap)⟩
      | with_reducible exact ⟨_, _, u1, u2, u3, u4, v1, v2, v3, v4, rfl, rfl, hide (tb_set_set bw dq db AZ0 AY0 (by omega) (by omega) (by omega))⟩
      | with_reducible exact ⟨_, _, u1, u2, u3, u4, v1, v2, v3, v4, rfl, rfl, hide ((tb_set_set bw db dq AY0 AZ0 (by omega) (by omega) (by omega)).swap)⟩
      | with_reducible exact ⟨_, _, u1, u2, u3, u4, v1, v2, v3, v4, rfl, rfl, hide (tb_set_set bw dq db AY0 AZ0 (by omega) (by omega) (by omega))⟩
      | with_reducible exact ⟨_, _, u1, u2, u3, u4, v1, v2, v3, v4, rfl, rfl, hide ((tb_set_set bw db dq AZ0 AY0 (by omega) (by omega) (by omega)).swap)⟩
      | with_reducible exact ⟨_, _, u1, u2, u3, u4, v1, v2, v3, v4, rfl, rfl, hide (tb_set_set bw dq db AY0 AY1 (by omega) (by omega) (by omega))⟩
      | with_reducible exact ⟨_, _, u1, u2, u3, u4, v1, v2, v3, v4, rfl, rfl, hide ((tb_set_set bw db dq AY1 AY0 (by omega) (by omega) (by omega)).swap)⟩
      | with_reducible exact ⟨_, _, u1, u2, u3, u4, v1, v2, v3, v4, rfl, rfl, hide (tb_set_set bw dq db AY1 AY0 (by omega) (by omega) (by omega))⟩
      | with_reducible exact ⟨_, _, u1, u2, u3, u4, v1, v2, v3, v4, rfl, rfl, hide ((tb_set_set bw db dq AY0 AY1 (by omega) (by omega) (by omega)).swap)⟩
  case rest =>
  obtain ⟨g5, g6, u1, u2, u3, u4, v1, v2, v3, v4, rfl, rfl, T⟩ := hcut
  obtain ⟨p5, p6, hu, hv, h5, h6, B2⟩ := T.out
  have lr : w.heap.size + 1 + 1 < W1.heap.size := (Array.getElem?_eq_some_iff.1 R1.out).1
  have n5 : Hid (g5 ≠ w.heap.size + 1 + 1) := by show g5 ≠ _; omega
  have n6 : Hid (g6 ≠ w.heap.size + 1 + 1) := by show g6 ≠ _; omega
  clear lr
  clear T S0 HA HB
  rename World => W2
  replace B2 := hide B2
  replace p5 := hide p5
  replace p6 := hide p6
  have U := hide hu
  have V := hide hv
  clear hu hv
  replace BW := hide (BW.out.then_below B2.out)
  replace P1 := hide (kept_block P1.out B2.out)
  replace Q1 := hide (kept_block Q1.out B2.out)
  replace R1 := hide (kept_block R1.out B2.out)
  replace A1 := hide (A1.out.below B2.out)
  replace N1 := hide (N1.out.below B2.out)
  replace T1 := hide (T1.out.below B2.out)
  clear h5 h6 B2
  have lr2 : w.heap.size + 1 + 1 < W2.heap.size := (Array.getElem?_eq_some_iff.1 R1.out).1
  obtain ⟨e0, e1, -, -⟩ := box_facts p5.out
  obtain ⟨f0, f1, -, -⟩ := box_facts p6.out
  have qg := hide (natGcd_calls W2 _ _ (lowN d1) (lowN d2) K U.out V.out l1.out l2.out hKK T1.out)
  rw [← hg.out] at qg
  go_upto_region 9 with (go_at_call 73; refine qg.out.mono ?_; rintro e w7 ⟨⟨r7, rfl, hr7⟩, b7⟩; obtain ⟨c1, c2, c3, c4, rfl⟩ := hr7.shape2; replace hr7 := hide hr7; replace b7 := hide b7)
  have B2 : Hid (Below W2.heap.size W2 (w7.alloc (.cells #[.int .u64 c1, .slice c2 c3 c4] 90))) := b7.out.then_below (alloc_below _ _)
  have p7 : Hid ((w7.alloc (.cells #[.int .u64 c1, .slice c2 c3 c4] 90)).heap[w7.heap.size]? = some (.cells #[.int .u64 c1, .slice c2 c3 c4] 90 (0, 0))) := heap_alloc_new w7 _
  have C := hide (hr7.out.below (alloc_below w7 (.cells #[.int .u64 c1, .slice c2 c3 c4] 90)))
  have n7 : Hid (w7.heap.size ≠ w.heap.size + 1 + 1) := by show w7.heap.size ≠ _; have := b7.out.size; omega
  clear e0 e1 f0 f1 qg hr7 b7 lr2
  generalize w7.alloc (.cells #[.int .u64 c1, .slice c2 c3 c4] 90) = W3 at *
  generalize w7.heap.size = g7 at *
  replace BW := hide (BW.out.then_below B2.out)
  replace P1 := hide (kept_block P1.out B2.out)
  replace Q1 := hide (kept_block Q1.out B2.out)
  replace R1 := hide (kept_block R1.out B2.out)
  replace p5 := hide (kept_block p5.out B2.out)
  replace p6 := hide (kept_block p6.out B2.out)
  replace A1 := hide (A1.out.below B2.out)
  replace N1 := hide (N1.out.below B2.out)
  replace T1 := hide (T1.out.below B2.out)
  replace U := hide (U.out.below B2.out)
  replace V := hide (V.out.below B2.out)
  clear B2
  obtain ⟨e0, e1, -, -⟩ := box_facts p5.out
  obtain ⟨f0, f1, -, -⟩ := box_facts p6.out
  obtain ⟨m0, m1, -, -⟩ := box_facts p7.out
  have S0 := hide (And.intro e0 (And.intro e1 (And.intro f0 (And.intro f1 (And.intro m0 (And.intro m1 (Below.refl W3.heap.size W3)))))))
  clear e0 e1 f0 f1 m0 m1
  go_cut [8, 9] (fun sx sy wx => ∃ (gx gy : Nat) (q1 : Int) (q2 : Option Addr) (q3 q4 : Nat) (r1 : Int) (r2 : Option Addr) (r3 r4 : Nat), sx = .pointer (some ⟨gx, 0, none⟩) ∧ sy = .pointer (some ⟨gy, 0, none⟩) ∧ Hid (TwoB W3 wx gx gy q1 q2 q3 q4 r1 r2 r3 r4 (ra) (rb)))
  case first =>
    go_region_held3
      (fun w' => w'.cell? ⟨g5, 0, none⟩ = some (.int .u64 u1) ∧ w'.cell? ⟨g5, 1, none⟩ = some (.slice u2 u3 u4) ∧ w'.cell? ⟨g6, 0, none⟩ = some (.int .u64 v1) ∧ w'.cell? ⟨g6, 1, none⟩ = some (.slice v2 v3 v4) ∧ w'.cell? ⟨g7, 0, none⟩ = some (.int .u64 c1) ∧ w'.cell? ⟨g7, 1, none⟩ = some (.slice c2 c3 c4) ∧ Below W3.heap.size W3 w')
      ((refine cells6_keep (w := W3) S0.out ?_; repeat (first | with_reducible exact Below.refl _ _ | with_reducible refine Below.drew ?_ | with_reducible refine Below.then_below ?_ (alloc_below _ _) | with_reducible refine Below.then_below ?_ ba | with_reducible refine Below.then_below ?_ bb | (with_reducible refine Below.then_grown ?_ (box_grown _ _ _ _) (by rintro g ⟨⟩; first | exact Nat.le_refl _ | omega)))))
      (first
        | (go_at_call_of 74 (Value.agg #[.int .u64 u1, .slice u2 u3 u4]); refine (over_ra _ _ _ (lowN d1) g ra K hra.out (U.out.below (by repeat (first | with_reducible exact Below.refl _ _ | with_reducible refine Below.drew ?_ | with_reducible refine Below.then_below ?_ (alloc_below _ _)))) (C.out.below (by repeat (first | with_reducible exact Below.refl _ _ | with_reducible refine Below.drew ?_ | with_reducible refine Below.then_below ?_ (alloc_below _ _)))) l1.out hg0.out hKK).mono ?_; rintro e wa ⟨⟨ra, rfl, da⟩, ba⟩; obtain ⟨e1, e2, e3, e4, rfl⟩ := da.shape2; have Ba : Below W3.heap.size W3 wa := (by repeat (first | with_reducible exact Below.refl _ _ | with_reducible refine Below.drew ?_ | with_reducible refine Below.then_below ?_ (alloc_below _ _) | with_reducible refine Below.then_below ?_ ba)); have sa : W3.heap.size ≤ wa.heap.size := Ba.size; (first | (have AZa0 : wa.heap[W3.heap.size]? = some (.cells #[.int .u64 0, .slice none 0 0] 90 (0, 0)) := kept_block (by first | exact heap_alloc_new W3 (.cells #[.int .u64 0, .slice none 0 0] 90) | exact (two_new W3 (.cells #[.int .u64 0, .slice none 0 0] 90) (.cells #[.int .u64 0, .slice none 0 0] 90)).1) ba; have lz0 : W3.heap.size < wa.heap.size := (Array.getElem?_eq_some_iff.1 AZa0).1) | skip); (first | (have AZa1 : wa.heap[W3.heap.size + 1]? = some (.cells #[.int .u64 0, .slice none 0 0] 90 (0, 0)) := kept_block (by exact (two_new W3 (.cells #[.int .u64 0, .slice none 0 0] 90) (.cells #[.int .u64 0, .slice none 0 0] 90)).2.1) ba; have lz1 : W3.heap.size + 1 < wa.heap.size := (Array.getElem?_eq_some_iff.1 AZa1).1) | skip))
        | (go_at_call_of 74 (Value.agg #[.int .u64 v1, .slice v2 v3 v4]); refine (over_ra _ _ _ (lowN d2) g rb K hrb.out (V.out.below (by repeat (first | with_reducible exact Below.refl _ _ | with_reducible refine Below.drew ?_ | with_reducible refine Below.then_below ?_ (alloc_below _ _) | with_reducible refine Below.then_below ?_ ba))) (C.out.below (by repeat (first | with_reducible exact Below.refl _ _ | with_reducible refine Below.drew ?_ | with_reducible refine Below.then_below ?_ (alloc_below _ _) | with_reducible refine Below.then_below ?_ ba))) l2.out hg0.out hKK).mono ?_; rintro e wb ⟨⟨rb, rfl, db⟩, bb⟩; obtain ⟨f1, f2, f3, f4, rfl⟩ := db.shape2; have BAB : Below wa.heap.size wa wb := (by repeat (first | with_reducible exact Below.refl _ _ | with_reducible refine Below.drew ?_ | with_reducible refine Below.then_below ?_ (alloc_below _ _) | with_reducible refine Below.then_below ?_ bb)); have bw : Below W3.heap.size W3 wb := Ba.then_below BAB; have dq := da.below BAB; have sb : wa.heap.size ≤ wb.heap.size := BAB.size; (first | (have AZ0 : wb.heap[W3.heap.size]? = some (.cells #[.int .u64 0, .slice none 0 0] 90 (0, 0)) := kept_block AZa0 BAB; obtain ⟨ta0, ta1, taf0, taf1⟩ := box_facts AZ0; have lAZ0 : W3.heap.size < wb.heap.size := (Array.getElem?_eq_some_iff.1 AZ0).1; have nAZ0 : W3.heap.size ≠ wb.heap.size := Nat.ne_of_lt lAZ0; have mAZ0 : wb.heap.size ≠ W3.heap.size := Nat.ne_of_gt lAZ0) | skip); (first | (have AZ1 : wb.heap[W3.heap.size + 1]? = some (.cells #[.int .u64 0, .slice none 0 0] 90 (0, 0)) := kept_block AZa1 BAB; obtain ⟨tb0, tb1, tbf0, tbf1⟩ := box_facts AZ1; have lAZ1 : W3.heap.size + 1 < wb.heap.size := (Array.getElem?_eq_some_iff.1 AZ1).1; have nAZ1 : W3.heap.size + 1 ≠ wb.heap.size := Nat.ne_of_lt lAZ1; have mAZ1 : wb.heap.size ≠ W3.heap.size + 1 := Nat.ne_of_gt lAZ1) | skip); (first | (have AY0 : wb.heap[wa.heap.size]? = some (.cells #[.int .u64 0, .slice none 0 0] 90 (0, 0)) := kept_block (by first | exact heap_alloc_new wa (.cells #[.int .u64 0, .slice none 0 0] 90) | exact (two_new wa (.cells #[.int .u64 0, .slice none 0 0] 90) (.cells #[.int .u64 0, .slice none 0 0] 90)).1) bb; obtain ⟨tc0, tc1, tcf0, tcf1⟩ := box_facts AY0; have lAY0 : wa.heap.size < wb.heap.size := (Array.getElem?_eq_some_iff.1 AY0).1; have nAY0 : wa.heap.size ≠ wb.heap.size := Nat.ne_of_lt lAY0; have mAY0 : wb.heap.size ≠ wa.heap.size := Nat.ne_of_gt lAY0) | skip); (first | (have AY1 : wb.heap[wa.heap.size + 1]? = some (.cells #[.int .u64 0, .slice none 0 0] 90 (0, 0)) := kept_block (by exact (two_new wa (.cells #[.int .u64 0, .slice none 0 0] 90) (.cells #[.int .u64 0, .slice none 0 0] 90)).2.1) bb; obtain ⟨td0, td1, tdf0, tdf1⟩ := box_facts AY1; have lAY1 : wa.heap.size + 1 < wb.heap.size := (Array.getElem?_eq_some_iff.1 AY1).1; have nAY1 : wa.heap.size + 1 ≠ wb.heap.size := Nat.ne_of_lt lAY1; have mAY1 : wb.heap.size ≠ wa.heap.size + 1 := Nat.ne_of_gt lAY1) | skip); (first | (have nl : W3.heap.size ≠ wa.heap.size := Nat.ne_of_lt lz0; have ml : wa.heap.size ≠ W3.heap.size := Nat.ne_of_gt lz0) | skip)))
    all_goals (go_wp2_with fail; go_meet)
    all_goals first
      | with_reducible exact ⟨_, _, e1, e2, e3, e4, f1, f2, f3, f4, rfl, rfl, hide (tb_alloc bw dq db)⟩
      | with_reducible exact ⟨_, _, e1, e2, e3, e4, f1, f2, f3, f4, rfl, rfl, hide ((tb_alloc bw db dq).swap)⟩
      | with_reducible exact ⟨_, _, e1, e2, e3, e4, f1, f2, f3, f4, rfl, rfl, hide (tb_set_alloc bw dq db AZ0 (by omega))⟩
      | with_reducible exact ⟨_, _, e1, e2, e3, e4, f1, f2, f3, f4, rfl, rfl, hide ((tb_set_alloc bw db dq AZ0 (by omega)).swap)⟩
      | with_reducible exact ⟨_, _, e1, e2, e3, e4, f1, f2, f3, f4, rfl, rfl, hide (tb_set_alloc bw dq db AY0 (by omega))⟩
      | with_reducible exact ⟨_, _, e1, e2, e3, e4, f1, f2, f3, f4, rfl, rfl, hide ((tb_set_alloc bw db dq AY0 (by omega)).swap)⟩
      | with_reducible exact ⟨_, _, e1, e2, e3, e4, f1, f2, f3, f4, rfl, rfl, hide (tb_set_set bw dq db AZ0 AZ1 (by omega) (by omega) (by omega))⟩
      | with_reducible exact ⟨_, _, e1, e2, e3, e4, f1, f2, f3, f4, rfl, rfl, hide ((tb_set_set bw db dq AZ1 AZ0 (by omega) (by omega) (by omega)).swap)⟩
      | with_reducible exact ⟨_, _, e1, e2, e3, e4, f1, f2, f3, f4, rfl, rfl, hide (tb_set_set bw dq db AZ1 AZ0 (by omega) (by omega) (by omega))⟩
      | with_reducible exact ⟨_, _, e1, e2, e3, e4, f1, f2, f3, f4, rfl, rfl, hide ((tb_set_set bw db dq AZ0 AZ1 (by omega) (by omega) (by omega)).swap)⟩
      | with_reducible exact ⟨_, _, e1, e2, e3, e4, f1, f2, f3, f4, rfl, rfl, hide (tb_set_set bw dq db AZ0 AY0 (by omega) (by omega) (by omega))⟩
      | with_reducible exact ⟨_, _, e1, e2, e3, e4, f1, f2, f3, f4, rfl, rfl, hide ((tb_set_set bw db dq AY0 AZ0 (by omega) (by omega) (by omega)).swap)⟩
      | with_reducible exact ⟨_, _, e1, e2, e3, e4, f1, f2, f3, f4, rfl, rfl, hide (tb_set_set bw dq db AY0 AZ0 (by omega) (by omega) (by omega))⟩
      | with_reducible exact ⟨_, _, e1, e2, e3, e4, f1, f2, f3, f4, rfl, rfl, hide ((tb_set_set bw db dq AZ0 AY0 (by omega) (by omega) (by omega)).swap)⟩
      | with_reducible exact ⟨_, _, e1, e2, e3, e4, f1, f2, f3, f4, rfl, rfl, hide (tb_set_set bw dq db AY0 AY1 (by omega) (by omega) (by omega))⟩
      | with_reducible exact ⟨_, _, e1, e2, e3, e4, f1, f2, f3, f4, rfl, rfl, hide ((tb_set_set bw db dq AY1 AY0 (by omega) (by omega) (by omega)).swap)⟩
      | with_reducible exact ⟨_, _, e1, e2, e3, e4, f1, f2, f3, f4, rfl, rfl, hide (tb_set_set bw dq db AY1 AY0 (by omega) (by omega) (by omega))⟩
      | with_reducible exact ⟨_, _, e1, e2, e3, e4, f1, f2, f3, f4, rfl, rfl, hide ((tb_set_set bw db dq AY0 AY1 (by omega) (by omega) (by omega)).swap)⟩
  case rest =>
  obtain ⟨g8, g9, e1, e2, e3, e4, f1, f2, f3, f4, rfl, rfl, T⟩ := hcut
  obtain ⟨p8, p9, he, hf, h8, h9, B2⟩ := T.out
  have lr : w.heap.size + 1 + 1 < W3.heap.size := (Array.getElem?_eq_some_iff.1 R1.out).1
  have n8 : Hid (g8 ≠ w.heap.size + 1 + 1) := by show g8 ≠ _; omega
  have n9 : Hid (g9 ≠ w.heap.size + 1 + 1) := by show g9 ≠ _; omega
  clear lr
  clear T S0
  rename World => W4
  replace B2 := hide B2
  replace p8 := hide p8
  replace p9 := hide p9
  have E := hide he
  have F := hide hf
  clear he hf
  replace BW := hide (BW.out.then_below B2.out)
  replace P1 := hide (kept_block P1.out B2.out)
  replace Q1 := hide (kept_block Q1.out B2.out)
  replace R1 := hide (kept_block R1.out B2.out)
  replace p5 := hide (kept_block p5.out B2.out)
  replace p6 := hide (kept_block p6.out B2.out)
  replace p7 := hide (kept_block p7.out B2.out)
  replace A1 := hide (A1.out.below B2.out)
  replace N1 := hide (N1.out.below B2.out)
  replace T1 := hide (T1.out.below B2.out)
  replace U := hide (U.out.below B2.out)
  replace V := hide (V.out.below B2.out)
  replace C := hide (C.out.below B2.out)
  clear h8 h9 B2
  go_upto_region 10 with fail
  obtain ⟨⟨i0, i1, i2, i3, i4⟩, -⟩ := ratBox P1.out
  obtain ⟨⟨j0, j1, j2, j3, j4⟩, -⟩ := ratBox Q1.out
  obtain ⟨c0', c1', -, -⟩ := box_facts p8.out
  obtain ⟨c2', c3', -, -⟩ := box_facts p9.out
  have S0 := hide (And.intro i0 (And.intro i1 (And.intro i2 (And.intro c2' (And.intro c3' (And.intro j0 (And.intro j1 (And.intro j2 (And.intro c0' (And.intro c1' (Below.refl W4.heap.size W4)))))))))))
  clear i0 i1 i2 i3 i4 j0 j1 j2 j3 j4 c0' c1' c2' c3'
  go_cut [10, 11] (fun sz sx wx => ∃ (gx : Nat) (q1 : Int) (q2 : Option Addr) (q3 q4 : Nat), sz = .bool sn ∧ sx = .pointer (some ⟨gx, 0, none⟩) ∧ Hid (OneB W4 wx gx q1 q2 q3 q4 s))
  case first =>
    go_region_held3
      (fun w' => w'.cell? ⟨w.heap.size, 0, none⟩ = some (.bool s1) ∧ w'.cell? ⟨w.heap.size, 1, none⟩ = some (.int .u64 x1) ∧ w'.cell? ⟨w.heap.size, 2, none⟩ = some (.slice x2 x3 x4) ∧ w'.cell? ⟨g9, 0, none⟩ = some (.int .u64 f1) ∧ w'.cell? ⟨g9, 1, none⟩ = some (.slice f2 f3 f4) ∧ w'.cell? ⟨w.heap.size + 1, 0, none⟩ = some (.bool s2) ∧ w'.cell? ⟨w.heap.size + 1, 1, none⟩ = some (.int .u64 p1) ∧ w'.cell? ⟨w.heap.size + 1, 2, none⟩ = some (.slice p2 p3 p4) ∧ w'.cell? ⟨g8, 0, none⟩ = some (.int .u64 e1) ∧ w'.cell? ⟨g8, 1, none⟩ = some (.slice e2 e3 e4) ∧ Below W4.heap.size W4 w')
      ((refine cells10_keep (w := W4) S0.out ?_; repeat (first | with_reducible exact Below.refl _ _ | with_reducible refine Below.drew ?_ | with_reducible refine Below.then_below ?_ (alloc_below _ _) | with_reducible refine Below.then_below ?_ b1 | with_reducible refine Below.then_below ?_ b2 | with_reducible refine Below.then_below ?_ b3 | (with_reducible refine Below.then_grown ?_ (box_grown _ _ _ _) (by rintro g ⟨⟩; first | exact Nat.le_refl _ | omega)))))
      (first
        | (go_at_call_of 75 (Value.agg #[.int .u64 x1, .slice x2 x3 x4]); refine (natMul_calls _ _ _ n1 rb K (A1.out.below (by repeat (first | with_reducible exact Below.refl _ _ | with_reducible refine Below.drew ?_ | with_reducible refine Below.then_below ?_ (alloc_below _ _)))) (F.out.below (by repeat (first | with_reducible exact Below.refl _ _ | with_reducible refine Below.drew ?_ | with_reducible refine Below.then_below ?_ (alloc_below _ _)))) k1.out krb.out hKK).mono ?_; rintro e w1 ⟨⟨qa, rfl, da⟩, b1⟩; have B1 : Below W4.heap.size W4 w1 := (by repeat (first | with_reducible exact Below.refl _ _ | with_reducible refine Below.drew ?_ | with_reducible refine Below.then_below ?_ (alloc_below _ _) | with_reducible refine Below.then_below ?_ b1)); have sz1 : W4.heap.size ≤ w1.heap.size := B1.size; (first | (have AZ : w1.heap[W4.heap.size]? = some (.cells #[.int .u64 0, .slice none 0 0] 90 (0, 0)) := kept_block (by exact heap_alloc_new W4 (.cells #[.int .u64 0, .slice none 0 0] 90)) b1; have lz : W4.heap.size < w1.heap.size := (Array.getElem?_eq_some_iff.1 AZ).1) | (replace AZ := kept_block AZ B1) | skip))
        | (go_at_call_of 75 (Value.agg #[.int .u64 p1, .slice p2 p3 p4]); refine (natMul_calls _ _ _ n2 ra K (N1.out.below (by repeat (first | with_reducible exact Below.refl _ _ | with_reducible refine Below.drew ?_ | with_reducible refine Below.then_below ?_ (alloc_below _ _) | with_reducible refine Below.then_below ?_ b1))) (E.out.below (by repeat (first | with_reducible exact Below.refl _ _ | with_reducible refine Below.drew ?_ | with_reducible refine Below.then_below ?_ (alloc_below _ _) | with_reducible refine Below.then_below ?_ b1))) k2.out kra.out hKK).mono ?_; rintro e w2 ⟨⟨qb, rfl, db⟩, b2⟩; have B2 : Below w1.heap.size w1 w2 := (by repeat (first | with_reducible exact Below.refl _ _ | with_reducible refine Below.drew ?_ | with_reducible refine Below.then_below ?_ (alloc_below _ _) | with_reducible refine Below.then_below ?_ b2)); have sz2 : w1.heap.size ≤ w2.heap.size := B2.size; replace da := da.below B2; (first | (have AZ : w2.heap[w1.heap.size]? = some (.cells #[.int .u64 0, .slice none 0 0] 90 (0, 0)) := kept_block (by exact heap_alloc_new w1 (.cells #[.int .u64 0, .slice none 0 0] 90)) b2; have lz : w1.heap.size < w2.heap.size := (Array.getElem?_eq_some_iff.1 AZ).1) | (replace AZ := kept_block AZ B2) | skip))
        | (go_at_call 72; refine (addSigned_st _ s1 s2 _ _ (n1 * rb) (n2 * ra) (2 * K) sn s hsn.out hs.out (da.below (by repeat (first | with_reducible exact Below.refl _ _ | with_reducible refine Below.drew ?_ | with_reducible refine Below.then_below ?_ (alloc_below _ _)))) (db.below (by repeat (first | with_reducible exact Below.refl _ _ | with_reducible refine Below.drew ?_ | with_reducible refine Below.then_below ?_ (alloc_below _ _)))) km1.out km2.out hK2).mono ?_; rintro e w3 ⟨⟨rc, rfl, dq⟩, b3⟩; have B3 : Below w2.heap.size w2 w3 := (by repeat (first | with_reducible exact Below.refl _ _ | with_reducible refine Below.drew ?_ | with_reducible refine Below.then_below ?_ (alloc_below _ _) | with_reducible refine Below.then_below ?_ b3)); have sz3 : w2.heap.size ≤ w3.heap.size := B3.size; obtain ⟨m1, m2, m3, m4, rfl⟩ := dq.shape2; (first | (have AZ : w3.heap[w2.heap.size]? = some (.cells #[.int .u64 0, .slice none 0 0] 90 (0, 0)) := kept_block (by exact heap_alloc_new w2 (.cells #[.int .u64 0, .slice none 0 0] 90)) b3; have lz : w2.heap.size < w3.heap.size := (Array.getElem?_eq_some_iff.1 AZ).1) | (replace AZ := kept_block AZ B3) | skip); (first | (have AZ2 := AZ; obtain ⟨ta0, ta1, tf0, tf1⟩ := box_facts AZ2) | skip)))
    all_goals (go_wp2_with fail; go_meet)
    all_goals first
      | with_reducible exact ⟨_, m1, m2, m3, m4, rfl, rfl, hide (ob_alloc ((B1.then_below B2).then_below B3) dq)⟩
      | with_reducible exact ⟨_, m1, m2, m3, m4, rfl, rfl, hide (ob_set ((B1.then_below B2).then_below B3) dq AZ (by omega))⟩
  case rest =>
  obtain ⟨g11, m1, m2, m3, m4, rfl, rfl, T⟩ := hcut
  obtain ⟨p11, hm, h11, B2⟩ := T.out
  have lr : w.heap.size + 1 + 1 < W4.heap.size := (Array.getElem?_eq_some_iff.1 R1.out).1
  have n11 : Hid (g11 ≠ w.heap.size + 1 + 1) := by show g11 ≠ _; omega
  clear lr
  clear T S0
  rename World => W5
  replace B2 := hide B2
  replace p11 := hide p11
  have Mm := hide hm
  clear hm
  replace BW := hide (BW.out.then_below B2.out)
  replace R1 := hide (kept_block R1.out B2.out)
  replace p6 := hide (kept_block p6.out B2.out)
  replace p7 := hide (kept_block p7.out B2.out)
  replace p8 := hide (kept_block p8.out B2.out)
  replace T1 := hide (T1.out.below B2.out)
  replace V := hide (V.out.below B2.out)
  replace C := hide (C.out.below B2.out)
  replace E := hide (E.out.below B2.out)
  clear h11 B2 P1 Q1 A1 N1 p5 U p9 F
  have lr2 : w.heap.size + 1 + 1 < W5.heap.size := (Array.getElem?_eq_some_iff.1 R1.out).1
  obtain ⟨e0, e1', -, -⟩ := box_facts p11.out
  obtain ⟨f0, f1', -, -⟩ := box_facts p7.out
  have qg := hide (natGcd_calls W5 _ _ s g (2 * K + 1) Mm.out C.out ks.out kg.out hK T1.out)
  rw [← ht.out] at qg
  go_upto_region 12 with (go_at_call 73; refine qg.out.mono ?_; rintro e w7 ⟨⟨r7, rfl, hr7⟩, b7⟩; obtain ⟨k1', k2', k3', k4', rfl⟩ := hr7.shape2; replace hr7 := hide hr7; replace b7 := hide b7)
  have B2 : Hid (Below W5.heap.size W5 (w7.alloc (.cells #[.int .u64 k1', .slice k2' k3' k4'] 90))) := b7.out.then_below (alloc_below _ _)
  have p12 : Hid ((w7.alloc (.cells #[.int .u64 k1', .slice k2' k3' k4'] 90)).heap[w7.heap.size]? = some (.cells #[.int .u64 k1', .slice k2' k3' k4'] 90 (0, 0))) := heap_alloc_new w7 _
  have X := hide (hr7.out.below (alloc_below w7 (.cells #[.int .u64 k1', .slice k2' k3' k4'] 90)))
  have n12 : Hid (w7.heap.size ≠ w.heap.size + 1 + 1) := by show w7.heap.size ≠ _; have := b7.out.size; omega
  clear e0 e1' f0 f1' qg hr7 b7 lr2 C p7
  generalize w7.alloc (.cells #[.int .u64 k1', .slice k2' k3' k4'] 90) = W6 at *
  generalize w7.heap.size = g12 at *
  replace BW := hide (BW.out.then_below B2.out)
  replace R1 := hide (kept_block R1.out B2.out)
  replace p6 := hide (kept_block p6.out B2.out)
  replace p8 := hide (kept_block p8.out B2.out)
  replace p11 := hide (kept_block p11.out B2.out)
  replace V := hide (V.out.below B2.out)
  replace E := hide (E.out.below B2.out)
  replace Mm := hide (Mm.out.below B2.out)
  clear B2
  obtain ⟨c0', c1', -, -⟩ := box_facts p11.out
  obtain ⟨c2', c3', -, -⟩ := box_facts p12.out
  obtain ⟨c4', c5', -, -⟩ := box_facts p8.out
  obtain ⟨c6', c7', -, -⟩ := box_facts p6.out
  have S0 := hide (And.intro c0' (And.intro c1' (And.intro c2' (And.intro c3' (And.intro c4' (And.intro c5' (And.intro c6' c7')))))))
  clear c0' c1' c2' c3' c4' c5' c6' c7'
  go_region_held3
    (fun w' => w'.cell? ⟨g11, 0, none⟩ = some (.int .u64 m1) ∧ w'.cell? ⟨g11, 1, none⟩ = some (.slice m2 m3 m4) ∧ w'.cell? ⟨g12, 0, none⟩ = some (.int .u64 k1') ∧ w'.cell? ⟨g12, 1, none⟩ = some (.slice k2' k3' k4') ∧ w'.cell? ⟨g8, 0, none⟩ = some (.int .u64 e1) ∧ w'.cell? ⟨g8, 1, none⟩ = some (.slice e2 e3 e4) ∧ w'.cell? ⟨g6, 0, none⟩ = some (.int .u64 v1) ∧ w'.cell? ⟨g6, 1, none⟩ = some (.slice v2 v3 v4))
    ((repeat (first | with_reducible exact S0.out | with_reducible refine bare8_set5 ?_ n11.out n11.out n12.out n12.out n8.out n8.out n6.out n6.out | with_reducible refine bare8_keep ?_ w4b | with_reducible refine bare8_keep ?_ w3b | with_reducible refine bare8_keep ?_ w2b | with_reducible refine bare8_keep ?_ w1b | with_reducible refine bare8_keep ?_ ((Below.refl _ _).drew))))
    (first
      | (go_at_call_of 74 (Value.agg #[.int .u64 m1, .slice m2 m3 m4]); refine (over_calls _ _ _ s t (2 * K + 1) (Mm.out.below (by repeat (first | with_reducible exact Below.refl _ _ | with_reducible refine Below.drew ?_ | with_reducible refine Below.then_below ?_ (alloc_below _ _)))) (X.out.below (by repeat (first | with_reducible exact Below.refl _ _ | with_reducible refine Below.drew ?_ | with_reducible refine Below.then_below ?_ (alloc_below _ _)))) ks.out ht0.out hK).mono ?_; rintro e w1 ⟨⟨qa, rfl, da⟩, w1b⟩)
      | (go_at_call_of 74 (Value.agg #[.int .u64 v1, .slice v2 v3 v4]); refine (over_calls _ _ _ (lowN d2) t K (V.out.below (by repeat (first | with_reducible exact Below.refl _ _ | with_reducible refine Below.drew ?_ | with_reducible refine Below.then_below ?_ (alloc_below _ _) | with_reducible refine Below.then_below ?_ w1b))) (X.out.below (by repeat (first | with_reducible exact Below.refl _ _ | with_reducible refine Below.drew ?_ | with_reducible refine Below.then_below ?_ (alloc_below _ _) | with_reducible refine Below.then_below ?_ w1b))) l2.out ht0.out hKK).mono ?_; rintro e w2 ⟨⟨qb, rfl, db⟩, w2b⟩)
      | (go_at_call 75; refine (natMul_calls _ _ _ ra (lowN d2 / t) K (E.out.below (by repeat (first | with_reducible exact Below.refl _ _ | with_reducible refine Below.drew ?_ | with_reducible refine Below.then_below ?_ (alloc_below _ _) | with_reducible refine Below.then_below ?_ w2b | with_reducible refine Below.then_below ?_ w1b))) db kra.out kl2.out hKK).mono ?_; rintro e w3 ⟨⟨qc, rfl, dc⟩, w3b⟩)
      | (go_at_call 59; refine (lowest_calls _ sn _ _ (s / t) (ra * (lowN d2 / t)) ((da.below w2b).below w3b) dc).mono ?_; rintro e w4 ⟨⟨qd, rfl, ld⟩, w4b⟩; obtain ⟨lb, nn, dd, hrd, hLow⟩ := Low.shape ld; obtain ⟨t1, t2, t3, t4, t5, t6, t7, t8, rfl, dn, dl⟩ := hrd.shape; have bw4 : Below W6.heap.size W6 w4 := (by repeat (first | with_reducible exact Below.refl _ _ | with_reducible refine Below.drew ?_ | with_reducible refine Below.then_below ?_ (alloc_below _ _) | with_reducible refine Below.then_below ?_ w4b | with_reducible refine Below.then_below ?_ w3b | with_reducible refine Below.then_below ?_ w2b | with_reducible refine Below.then_below ?_ w1b)); have R2 := kept_block R1.out bw4; obtain ⟨⟨o0, o1, o2, o3, o4⟩, of0, of1, of2, of3, of4⟩ := ratBox R2))
  go_wp2
  refine bodyPost_ret (v := .agg #[.bool lb, .int .u64 t1, .slice t2 t3 t4, .int .u64 t5, .slice t6 t7 t8]) (by simp [results, Tryz.results54, go_sem, o0, o1, o2, o3, o4]) rfl ?_
  have q := set5 w4 (w.heap.size + 1 + 1) (.bool lb) (.int .u64 t1) (.slice t2 t3 t4) (.int .u64 t5) (.slice t6 t7 t8)
  exact ⟨⟨_, rfl, hLow.out _ _ (DenR.make dn dl R2 (nopair5 _ _ _ _ _ _ _ _ _) q)⟩, (BW.out.then_below bw4).then_grown q (by rintro g ⟨⟩; omega)⟩
end Go.Proofs.YtlepicdpelkmlaaGreatDoor
