/-
  Package rat: Mul and Add, each in one form; Sub, Quo.
-/
import Derived.Test.YtlepicdpelkmlaaGreatDoorMulD
import Derived.Test.YtlepicdpelkmlaaGreatDoorMulB
import Derived.Test.YtlepicdpelkmlaaGreatDoorMulC
/- ==== RatSub ==== -/
namespace Go.Proofs.YtlepicdpelkmlaaGreatDoor
open Go.RowKit
set_option linter.unusedVariables false
theorem low_of_whole {w : World} {r : Value} {neg : Bool} {n : Nat} (h : DenR w r (neg && !decide (n = 0)) n 0) : Low w r neg n 1 := by
  unfold Low
  rw [if_pos (.inr rfl)]
  exact h
theorem lowN_zero : lowN 0 = 1 := rfl
theorem lowN_of {d : Nat} (h : d ≠ 0) : lowN d = d := if_neg h
theorem pmul_calls (w : World) (va vb : Value) (s1 s2 : Bool) (n1 d1 n2 d2 K : Nat) (ha : DenR w va s1 n1 d1) (hb : DenR w vb s2 n2 d2) (k1 : (n1 : Int) < M.BB ^ K) (l1 : ((lowN d1 : Nat) : Int) < M.BB ^ K) (k2 : (n2 : Int) < M.BB ^ K) (l2 : ((lowN d2 : Nat) : Int) < M.BB ^ K) (c1 : Nat.gcd n1 (lowN d1) = 1) (c2 : Nat.gcd n2 (lowN d2) = 1) (hK : K ≤ 4398046511104) (hT : Tab w) :
    Calls Tryz.prog 58 #[va, vb] w fun e w' => (∃ r, e = .returned r ∧ Low w' r (s1 != s2) (n1 * n2 / Nat.gcd (n1 * n2) (lowN d1 * lowN d2)) (lowN d1 * lowN d2 / Nat.gcd (n1 * n2) (lowN d1 * lowN d2))) ∧ Below w.heap.size w w' := by
  by_cases hz : n1 = 0 ∨ n2 = 0
  · refine (pmul_zero w va vb s1 s2 n1 d1 n2 d2 ha hb hz).mono ?_
    rintro e w' ⟨⟨r, rfl, hr⟩, b⟩
    refine ⟨⟨r, rfl, ?_⟩, b⟩
    rw [show n1 * n2 = 0 by rcases hz with h | h <;> simp [h], Nat.gcd_zero_left, Nat.zero_div, Nat.div_self (Nat.mul_pos (lowN_pos d1) (lowN_pos d2))]
    refine low_of_whole (neg := s1 != s2) ?_
    rw [decide_eq_true rfl, Bool.not_true, Bool.and_false]
    exact hr
  have nz1 : n1 ≠ 0 := fun e => hz (.inl e)
  have nz2 : n2 ≠ 0 := fun e => hz (.inr e)
  by_cases hd : d1 = 0 ∧ d2 = 0
  · obtain ⟨h1, h2⟩ := hd
    refine (pmul_whole w va vb s1 s2 n1 d1 n2 d2 K ha hb h1 h2 k1 k2 hK nz1 nz2).mono ?_
    rintro e w' ⟨⟨r, rfl, hr⟩, b⟩
    refine ⟨⟨r, rfl, ?_⟩, b⟩
    rw [h1, h2, lowN_zero, Nat.mul_one, Nat.gcd_one_right, Nat.div_one, Nat.div_one]
    exact low_of_whole hr
  · refine (pmul_frac w va vb s1 s2 n1 d1 n2 d2 K ha hb hd k1 l1 k2 l2 hK hT nz1 nz2).mono ?_
    rintro e w' ⟨⟨r, rfl, hr⟩, b⟩
    refine ⟨⟨r, rfl, ?_⟩, b⟩
    obtain ⟨e1, e2⟩ := M.mul_cross c1 c2
    rw [← e1, ← e2]
    exact hr
/-- Where nothing is added. -/
theorem low_same {w : World} {r : Value} {s sx : Bool} {n d : Nat} (h : DenR w r s n d) (c : Nat.gcd n (lowN d) = 1) (hd : d ≠ 1) (hz : n = 0 → s = false) (hs : n ≠ 0 → sx = s) : Low w r sx n (lowN d) := by
  unfold Low
  by_cases h0 : n = 0
  · rw [if_pos (.inl h0)]
    have e : lowN d = 1 := by rw [h0, Nat.gcd_zero_left] at c; exact c
    have e2 : d = 0 := by unfold lowN at e; split at e <;> omega
    rw [decide_eq_true h0, Bool.not_true, Bool.and_false, ← hz h0, ← e2]
    exact h
  · rw [hs h0, decide_eq_false h0, Bool.not_false, Bool.and_true]
    by_cases h1 : lowN d = 1
    · rw [if_pos (.inr h1)]
      have e2 : d = 0 := by unfold lowN at h1; split at h1 <;> omega
      rw [← e2]
      exact h
    · rw [if_neg (by omega), lowN_of (by intro e; rw [e] at h1; exact h1 rfl)]
      exact h
theorem padd_calls (w : World) (va vb : Value) (s1 s2 : Bool) (n1 d1 n2 d2 K : Nat) (ha : DenR w va s1 n1 d1) (hb : DenR w vb s2 n2 d2) (k1 : (n1 : Int) < M.BB ^ K) (l1 : ((lowN d1 : Nat) : Int) < M.BB ^ K) (k2 : (n2 : Int) < M.BB ^ K) (l2 : ((lowN d2 : Nat) : Int) < M.BB ^ K) (c1 : Nat.gcd n1 (lowN d1) = 1) (c2 : Nat.gcd n2 (lowN d2) = 1) (hK : 2 * K + 1 ≤ 4398046511104) (hT : Tab w) (x1 : d1 ≠ 1) (x2 : d2 ≠ 1) (y1 : n1 = 0 → s1 = false) (y2 : n2 = 0 → s2 = false) :
    Calls Tryz.prog 54 #[va, vb] w fun e w' => (∃ r, e = .returned r ∧ Low w' r (M.addS s1 (n1 * lowN d2) s2 (n2 * lowN d1)).1 ((M.addS s1 (n1 * lowN d2) s2 (n2 * lowN d1)).2 / Nat.gcd (M.addS s1 (n1 * lowN d2) s2 (n2 * lowN d1)).2 (lowN d1 * lowN d2)) (lowN d1 * lowN d2 / Nat.gcd (M.addS s1 (n1 * lowN d2) s2 (n2 * lowN d1)).2 (lowN d1 * lowN d2))) ∧ Below w.heap.size w w' := by
  by_cases nz1 : n1 = 0
  · refine (padd_zero1 w va vb s1 s2 n1 d1 n2 d2 ha hb nz1).mono ?_
    rintro e w' ⟨⟨r, rfl, hr⟩, b⟩
    refine ⟨⟨r, rfl, ?_⟩, b⟩
    have e1 : lowN d1 = 1 := by rw [nz1, Nat.gcd_zero_left] at c1; exact c1
    have e2 : (M.addS s1 0 s2 n2).2 = n2 := by unfold M.addS; split <;> (try split) <;> simp <;> omega
    rw [nz1, Nat.zero_mul, e1, Nat.mul_one, Nat.one_mul, e2, c2, Nat.div_one, Nat.div_one]
    refine low_same hr c2 x2 y2 (fun h => ?_)
    unfold M.addS
    split
    · next h' => exact h'
    · split
      · omega
      · rfl
  by_cases nz2 : n2 = 0
  · refine (padd_zero2 w va vb s1 s2 n1 d1 n2 d2 ha hb nz1 nz2).mono ?_
    rintro e w' ⟨⟨r, rfl, hr⟩, b⟩
    refine ⟨⟨r, rfl, ?_⟩, b⟩
    have e1 : lowN d2 = 1 := by rw [nz2, Nat.gcd_zero_left] at c2; exact c2
    have e2 : (M.addS s1 n1 s2 0).2 = n1 := by unfold M.addS; split <;> (try split) <;> simp <;> omega
    rw [nz2, Nat.zero_mul, e1, Nat.mul_one, Nat.mul_one, e2, c1, Nat.div_one, Nat.div_one]
    refine low_same hr c1 x1 y1 (fun h => ?_)
    unfold M.addS
    split
    · rfl
    · split
      · rfl
      · omega
  by_cases hd : d1 = 0 ∧ d2 = 0
  · obtain ⟨h1, h2⟩ := hd
    refine (padd_whole w va vb s1 s2 n1 d1 n2 d2 K ha hb h1 h2 k1 k2 (by omega) nz1 nz2).mono ?_
    rintro e w' ⟨⟨r, rfl, hr⟩, b⟩
    refine ⟨⟨r, rfl, ?_⟩, b⟩
    rw [h1, h2, lowN_zero, Nat.mul_one, Nat.mul_one, Nat.mul_one, Nat.gcd_one_right, Nat.div_one, Nat.div_one]
    exact low_of_whole hr
  · refine (padd_frac w va vb s1 s2 n1 d1 n2 d2 K ha hb hd k1 l1 k2 l2 hK hT nz1 nz2 _ _ _ _ _ _ rfl rfl rfl rfl rfl rfl).mono ?_
    rintro e w' ⟨⟨r, rfl, hr⟩, b⟩
    refine ⟨⟨r, rfl, ?_⟩, b⟩
    obtain ⟨e0, e1, e2⟩ := M.add_cross (sa := s1) (sb := s2) (lowN_pos d1) (lowN_pos d2) c1 c2 _ _ _ rfl rfl rfl
    rw [← e0, ← e1, ← e2]
    exact hr
set_option maxRecDepth 100000 in
set_option maxHeartbeats 8000000 in
theorem psub_calls (w : World) (va vb : Value) (s1 s2 : Bool) (n1 d1 n2 d2 K : Nat) (ha : DenR w va s1 n1 d1) (hb : DenR w vb s2 n2 d2) (k1 : (n1 : Int) < M.BB ^ K) (l1 : ((lowN d1 : Nat) : Int) < M.BB ^ K) (k2 : (n2 : Int) < M.BB ^ K) (l2 : ((lowN d2 : Nat) : Int) < M.BB ^ K) (c1 : Nat.gcd n1 (lowN d1) = 1) (c2 : Nat.gcd n2 (lowN d2) = 1) (hK : 2 * K + 1 ≤ 4398046511104) (hT : Tab w) (xx1 : d1 ≠ 1) (xx2 : d2 ≠ 1) (yy1 : n1 = 0 → s1 = false) :
    Calls Tryz.prog 38 #[va, vb] w fun e w' => (∃ r, e = .returned r ∧ Low w' r (M.addS s1 (n1 * lowN d2) (!s2 && !decide (n2 = 0)) (n2 * lowN d1)).1 ((M.addS s1 (n1 * lowN d2) (!s2 && !decide (n2 = 0)) (n2 * lowN d1)).2 / Nat.gcd (M.addS s1 (n1 * lowN d2) (!s2 && !decide (n2 = 0)) (n2 * lowN d1)).2 (lowN d1 * lowN d2)) (lowN d1 * lowN d2 / Nat.gcd (M.addS s1 (n1 * lowN d2) (!s2 && !decide (n2 = 0)) (n2 * lowN d1)).2 (lowN d1 * lowN d2))) ∧ Below w.heap.size w w' := by
  have ha' := hide ha
  have hb' := hide hb
  obtain ⟨x1, x2, x3, x4, y1, y2, y3, y4, rfl, a1, a2⟩ := ha
  obtain ⟨p1, p2, p3, p4, r1, r2, r3, r4, rfl, b1, b2⟩ := hb
  have z1 : (w.alloc (.cells #[.bool s1, .int .u64 x1, .slice x2 x3 x4, .int .u64 y1, .slice y2 y3 y4] 92)).heap.size = w.heap.size + 1 := by show (w.heap.push _).size = _; simp
  have z2 : ((w.alloc (.cells #[.bool s1, .int .u64 x1, .slice x2 x3 x4, .int .u64 y1, .slice y2 y3 y4] 92)).alloc (.cells #[.bool s2, .int .u64 p1, .slice p2 p3 p4, .int .u64 r1, .slice r2 r3 r4] 92)).heap.size = w.heap.size + 1 + 1 := by show ((w.heap.push _).push _).size = _; simp
  have P0 := kept_block (kept_block (heap_alloc_new w (.cells #[.bool s1, .int .u64 x1, .slice x2 x3 x4, .int .u64 y1, .slice y2 y3 y4] 92)) (alloc_below _ (.cells #[.bool s2, .int .u64 p1, .slice p2 p3 p4, .int .u64 r1, .slice r2 r3 r4] 92))) (alloc_below _ (.cells #[.bool false, .int .u64 0, .slice none 0 0, .int .u64 0, .slice none 0 0] 92))
  have Q0 := kept_block (heap_alloc_new (w.alloc (.cells #[.bool s1, .int .u64 x1, .slice x2 x3 x4, .int .u64 y1, .slice y2 y3 y4] 92)) (.cells #[.bool s2, .int .u64 p1, .slice p2 p3 p4, .int .u64 r1, .slice r2 r3 r4] 92)) (alloc_below _ (.cells #[.bool false, .int .u64 0, .slice none 0 0, .int .u64 0, .slice none 0 0] 92))
  have R0 := heap_alloc_new ((w.alloc (.cells #[.bool s1, .int .u64 x1, .slice x2 x3 x4, .int .u64 y1, .slice y2 y3 y4] 92)).alloc (.cells #[.bool s2, .int .u64 p1, .slice p2 p3 p4, .int .u64 r1, .slice r2 r3 r4] 92)) (.cells #[.bool false, .int .u64 0, .slice none 0 0, .int .u64 0, .slice none 0 0] 92)
  rw [z1] at Q0
  rw [z2] at R0
  have B0 := (alloc2_below w (.cells #[.bool s1, .int .u64 x1, .slice x2 x3 x4, .int .u64 y1, .slice y2 y3 y4] 92) (.cells #[.bool s2, .int .u64 p1, .slice p2 p3 p4, .int .u64 r1, .slice r2 r3 r4] 92)).then_below (alloc_below _ (.cells #[.bool false, .int .u64 0, .slice none 0 0, .int .u64 0, .slice none 0 0] 92))
  clear z1 z2
  obtain ⟨W0, hW0⟩ : ∃ W0, ((w.alloc (.cells #[.bool s1, .int .u64 x1, .slice x2 x3 x4, .int .u64 y1, .slice y2 y3 y4] 92)).alloc (.cells #[.bool s2, .int .u64 p1, .slice p2 p3 p4, .int .u64 r1, .slice r2 r3 r4] 92)).alloc (.cells #[.bool false, .int .u64 0, .slice none 0 0, .int .u64 0, .slice none 0 0] 92) = W0 := ⟨_, rfl⟩
  rw [hW0] at P0 Q0 R0 B0
  replace P0 := hide P0
  replace Q0 := hide Q0
  replace R0 := hide R0
  replace B0 := hide B0
  replace a1 := hide a1
  replace a2 := hide a2
  replace b1 := hide b1
  replace b2 := hide b2
  obtain ⟨⟨i0, i1, i2, i3, i4⟩, -⟩ := ratBox P0.out
  obtain ⟨⟨j0, j1, j2, j3, j4⟩, -⟩ := ratBox Q0.out
  replace k1 := hide k1
  replace k2 := hide k2
  replace l1 := hide l1
  replace l2 := hide l2
  replace c1 := hide c1
  replace c2 := hide c2
  have TT := hide (hT.below B0.out)
  have XX := hide (And.intro xx1 (And.intro xx2 yy1))
  have YY : Hid (n2 = 0 → (!s2 && !decide (n2 = 0)) = false) := fun h => by rw [decide_eq_true h]; simp
  clear hT
  have HA := hide (ha'.out.below B0.out)
  have HB := hide (hb'.out.below B0.out)
  clear ha' hb' a1 a2 b1 b2 xx1 xx2 yy1
  go_enter Tryz.func38, Tryz.ntmps38
  go_upto_region 1 with fail
  have S0 := hide (And.intro i0 (And.intro i1 (And.intro i2 (And.intro i3 (And.intro i4 (And.intro j0 (And.intro j1 (And.intro j2 (And.intro j3 j4)))))))))
  have na : Hid (w.heap.size ≠ w.heap.size + 1 + 1) := by show w.heap.size ≠ _; omega
  have nb : Hid (w.heap.size + 1 ≠ w.heap.size + 1 + 1) := by show w.heap.size + 1 ≠ _; omega
  clear i0 i1 i2 i3 i4 j0 j1 j2 j3 j4 hW0
  go_region_held3
    (fun w' => w'.cell? ⟨w.heap.size, 0, none⟩ = some (.bool s1) ∧ w'.cell? ⟨w.heap.size, 1, none⟩ = some (.int .u64 x1) ∧ w'.cell? ⟨w.heap.size, 2, none⟩ = some (.slice x2 x3 x4) ∧ w'.cell? ⟨w.heap.size, 3, none⟩ = some (.int .u64 y1) ∧ w'.cell? ⟨w.heap.size, 4, none⟩ = some (.slice y2 y3 y4) ∧ w'.cell? ⟨w.heap.size + 1, 0, none⟩ = some (.bool s2) ∧ w'.cell? ⟨w.heap.size + 1, 1, none⟩ = some (.int .u64 p1) ∧ w'.cell? ⟨w.heap.size + 1, 2, none⟩ = some (.slice p2 p3 p4) ∧ w'.cell? ⟨w.heap.size + 1, 3, none⟩ = some (.int .u64 r1) ∧ w'.cell? ⟨w.heap.size + 1, 4, none⟩ = some (.slice r2 r3 r4))
    ((repeat (first | with_reducible exact S0.out | with_reducible refine bare10_set5 ?_ na.out na.out na.out na.out na.out nb.out nb.out nb.out nb.out nb.out | with_reducible refine bare10_keep ?_ bb | with_reducible refine bare10_keep ?_ ba | with_reducible refine bare10_keep ?_ ((Below.refl _ _).drew))))
    (first
      | (go_at_call 55; refine (neg_calls _ _ s2 n2 d2 (HB.out.below (by repeat (first | with_reducible exact Below.refl _ _ | with_reducible refine Below.drew ?_ | with_reducible refine Below.then_below ?_ (alloc_below _ _))))).mono ?_; rintro e wa ⟨⟨ra, rfl, da⟩, ba⟩)
      | (go_at_call 54; refine (padd_calls _ _ _ s1 (!s2 && !decide (n2 = 0)) n1 d1 n2 d2 K (HA.out.below (by repeat (first | with_reducible exact Below.refl _ _ | with_reducible refine Below.drew ?_ | with_reducible refine Below.then_below ?_ (alloc_below _ _) | with_reducible refine Below.then_below ?_ ba))) da k1.out l1.out k2.out l2.out c1.out c2.out hK (TT.out.below (by repeat (first | with_reducible exact Below.refl _ _ | with_reducible refine Below.drew ?_ | with_reducible refine Below.then_below ?_ (alloc_below _ _) | with_reducible refine Below.then_below ?_ ba))) XX.out.1 XX.out.2.1 XX.out.2.2 YY.out).mono ?_; rintro e wl ⟨⟨rl, rfl, ld⟩, bb⟩; obtain ⟨lb, nn, dd, hrd, hLow⟩ := Low.shape ld; obtain ⟨t1, t2, t3, t4, t5, t6, t7, t8, rfl, dn, dl⟩ := hrd.shape; have bwl : Below W0.heap.size W0 wl := (by repeat (first | with_reducible exact Below.refl _ _ | with_reducible refine Below.drew ?_ | with_reducible refine Below.then_below ?_ (alloc_below _ _) | with_reducible refine Below.then_below ?_ bb | with_reducible refine Below.then_below ?_ ba)); have R2 := kept_block R0.out bwl; obtain ⟨⟨o0, o1, o2, o3, o4⟩, of0, of1, of2, of3, of4⟩ := ratBox R2))
  go_wp2
  refine bodyPost_ret (v := .agg #[.bool lb, .int .u64 t1, .slice t2 t3 t4, .int .u64 t5, .slice t6 t7 t8]) (by simp [results, Tryz.results38, go_sem, o0, o1, o2, o3, o4]) rfl ?_
  have q := set5 wl (w.heap.size + 1 + 1) (.bool lb) (.int .u64 t1) (.slice t2 t3 t4) (.int .u64 t5) (.slice t6 t7 t8)
  exact ⟨⟨_, rfl, hLow.out _ _ (DenR.make dn dl R2 (nopair5 _ _ _ _ _ _ _ _ _) q)⟩, (B0.out.then_below bwl).then_grown q (by rintro g ⟨⟩; omega)⟩
theorem low_inv {w : World} {r : Value} {s : Bool} {n d : Nat} (hn : 0 < n) (hd : 0 < d) (h : Low w r s n d) : ∃ dd, DenR w r s n dd ∧ lowN dd = d := by
  unfold Low at h
  have hs : (s && !decide (n = 0)) = s := by rw [decide_eq_false (by omega)]; simp
  by_cases c : n = 0 ∨ d = 1
  · rw [if_pos c, hs] at h
    refine ⟨0, h, ?_⟩
    rcases c with c | c
    · omega
    · rw [c]; rfl
  · rw [if_neg c] at h
    exact ⟨d, h, lowN_of (by omega)⟩
theorem pmul_low (w : World) (va vb : Value) (s1 s2 : Bool) (n1 d1 n2 D2 K : Nat) (ha : DenR w va s1 n1 d1) (hb : ∃ d2, DenR w vb s2 n2 d2 ∧ lowN d2 = D2) (k1 : (n1 : Int) < M.BB ^ K) (l1 : ((lowN d1 : Nat) : Int) < M.BB ^ K) (k2 : (n2 : Int) < M.BB ^ K) (l2 : (D2 : Int) < M.BB ^ K) (c1 : Nat.gcd n1 (lowN d1) = 1) (c2 : Nat.gcd n2 D2 = 1) (hK : K ≤ 4398046511104) (hT : Tab w) :
    Calls Tryz.prog 58 #[va, vb] w fun e w' => (∃ r, e = .returned r ∧ Low w' r (s1 != s2) (n1 * n2 / Nat.gcd (n1 * n2) (lowN d1 * D2)) (lowN d1 * D2 / Nat.gcd (n1 * n2) (lowN d1 * D2))) ∧ Below w.heap.size w w' := by
  obtain ⟨d2, hb, rfl⟩ := hb
  exact pmul_calls w va vb s1 s2 n1 d1 n2 d2 K ha hb k1 l1 k2 l2 c1 c2 hK hT
set_option maxRecDepth 100000 in
set_option maxHeartbeats 8000000 in
theorem pquo_calls (w : World) (va vb : Value) (s1 s2 : Bool) (n1 d1 n2 d2 K : Nat) (ha : DenR w va s1 n1 d1) (hb : DenR w vb s2 n2 d2) (k1 : (n1 : Int) < M.BB ^ K) (l1 : ((lowN d1 : Nat) : Int) < M.BB ^ K) (k2 : (n2 : Int) < M.BB ^ K) (l2 : ((lowN d2 : Nat) : Int) < M.BB ^ K) (c1 : Nat.gcd n1 (lowN d1) = 1) (c2 : Nat.gcd n2 (lowN d2) = 1) (hz : 0 < n2) (hK : K ≤ 4398046511104) (hT : Tab w) :
    Calls Tryz.prog 41 #[va, vb] w fun e w' => (∃ r, e = .returned r ∧ Low w' r (s1 != s2) (n1 * lowN d2 / Nat.gcd (n1 * lowN d2) (lowN d1 * n2)) (lowN d1 * n2 / Nat.gcd (n1 * lowN d2) (lowN d1 * n2))) ∧ Below w.heap.size w w' := by
  have c3 := hide ((Nat.gcd_comm _ _).trans c2)
  have hz' := hide hz
  have ha' := hide ha
  have hb' := hide hb
  obtain ⟨x1, x2, x3, x4, y1, y2, y3, y4, rfl, a1, a2⟩ := ha
  obtain ⟨p1, p2, p3, p4, r1, r2, r3, r4, rfl, b1, b2⟩ := hb
  have z1 : (w.alloc (.cells #[.bool s1, .int .u64 x1, .slice x2 x3 x4, .int .u64 y1, .slice y2 y3 y4] 92)).heap.size = w.heap.size + 1 := by show (w.heap.push _).size = _; simp
  have z2 : ((w.alloc (.cells #[.bool s1, .int .u64 x1, .slice x2 x3 x4, .int .u64 y1, .slice y2 y3 y4] 92)).alloc (.cells #[.bool s2, .int .u64 p1, .slice p2 p3 p4, .int .u64 r1, .slice r2 r3 r4] 92)).heap.size = w.heap.size + 1 + 1 := by show ((w.heap.push _).push _).size = _; simp
  have P0 := kept_block (kept_block (heap_alloc_new w (.cells #[.bool s1, .int .u64 x1, .slice x2 x3 x4, .int .u64 y1, .slice y2 y3 y4] 92)) (alloc_below _ (.cells #[.bool s2, .int .u64 p1, .slice p2 p3 p4, .int .u64 r1, .slice r2 r3 r4] 92))) (alloc_below _ (.cells #[.bool false, .int .u64 0, .slice none 0 0, .int .u64 0, .slice none 0 0] 92))
  have Q0 := kept_block (heap_alloc_new (w.alloc (.cells #[.bool s1, .int .u64 x1, .slice x2 x3 x4, .int .u64 y1, .slice y2 y3 y4] 92)) (.cells #[.bool s2, .int .u64 p1, .slice p2 p3 p4, .int .u64 r1, .slice r2 r3 r4] 92)) (alloc_below _ (.cells #[.bool false, .int .u64 0, .slice none 0 0, .int .u64 0, .slice none 0 0] 92))
  have R0 := heap_alloc_new ((w.alloc (.cells #[.bool s1, .int .u64 x1, .slice x2 x3 x4, .int .u64 y1, .slice y2 y3 y4] 92)).alloc (.cells #[.bool s2, .int .u64 p1, .slice p2 p3 p4, .int .u64 r1, .slice r2 r3 r4] 92)) (.cells #[.bool false, .int .u64 0, .slice none 0 0, .int .u64 0, .slice none 0 0] 92)
  rw [z1] at Q0
  rw [z2] at R0
  have B0 := (alloc2_below w (.cells #[.bool s1, .int .u64 x1, .slice x2 x3 x4, .int .u64 y1, .slice y2 y3 y4] 92) (.cells #[.bool s2, .int .u64 p1, .slice p2 p3 p4, .int .u64 r1, .slice r2 r3 r4] 92)).then_below (alloc_below _ (.cells #[.bool false, .int .u64 0, .slice none 0 0, .int .u64 0, .slice none 0 0] 92))
  clear z1 z2
  obtain ⟨W0, hW0⟩ : ∃ W0, ((w.alloc (.cells #[.bool s1, .int .u64 x1, .slice x2 x3 x4, .int .u64 y1, .slice y2 y3 y4] 92)).alloc (.cells #[.bool s2, .int .u64 p1, .slice p2 p3 p4, .int .u64 r1, .slice r2 r3 r4] 92)).alloc (.cells #[.bool false, .int .u64 0, .slice none 0 0, .int .u64 0, .slice none 0 0] 92) = W0 := ⟨_, rfl⟩
  rw [hW0] at P0 Q0 R0 B0
  replace P0 := hide P0
  replace Q0 := hide Q0
  replace R0 := hide R0
  replace B0 := hide B0
  replace a1 := hide a1
  replace a2 := hide a2
  replace b1 := hide b1
  replace b2 := hide b2
  obtain ⟨⟨i0, i1, i2, i3, i4⟩, -⟩ := ratBox P0.out
  obtain ⟨⟨j0, j1, j2, j3, j4⟩, -⟩ := ratBox Q0.out
  replace k1 := hide k1
  replace k2 := hide k2
  replace l1 := hide l1
  replace l2 := hide l2
  replace c1 := hide c1
  replace c2 := hide c2
  have TT := hide (hT.below B0.out)
  clear hT
  have HA := hide (ha'.out.below B0.out)
  have HB := hide (hb'.out.below B0.out)
  have N1 := hide (b1.out.below B0.out)
  clear ha' hb' a1 a2 b1 b2 hz
  go_enter Tryz.func41, Tryz.ntmps41
  go_upto_region 1 with fail
  have S0 := hide (And.intro i0 (And.intro i1 (And.intro i2 (And.intro i3 (And.intro i4 (And.intro j0 (And.intro j1 (And.intro j2 (And.intro j3 j4)))))))))
  have na : Hid (w.heap.size ≠ w.heap.size + 1 + 1) := by show w.heap.size ≠ _; omega
  have nb : Hid (w.heap.size + 1 ≠ w.heap.size + 1 + 1) := by show w.heap.size + 1 ≠ _; omega
  clear i0 i1 i2 i3 i4 j0 j1 j2 j3 j4 hW0
  go_region_held3
    (fun w' => w'.cell? ⟨w.heap.size, 0, none⟩ = some (.bool s1) ∧ w'.cell? ⟨w.heap.size, 1, none⟩ = some (.int .u64 x1) ∧ w'.cell? ⟨w.heap.size, 2, none⟩ = some (.slice x2 x3 x4) ∧ w'.cell? ⟨w.heap.size, 3, none⟩ = some (.int .u64 y1) ∧ w'.cell? ⟨w.heap.size, 4, none⟩ = some (.slice y2 y3 y4) ∧ w'.cell? ⟨w.heap.size + 1, 0, none⟩ = some (.bool s2) ∧ w'.cell? ⟨w.heap.size + 1, 1, none⟩ = some (.int .u64 p1) ∧ w'.cell? ⟨w.heap.size + 1, 2, none⟩ = some (.slice p2 p3 p4) ∧ w'.cell? ⟨w.heap.size + 1, 3, none⟩ = some (.int .u64 r1) ∧ w'.cell? ⟨w.heap.size + 1, 4, none⟩ = some (.slice r2 r3 r4))
    ((repeat (first | with_reducible exact S0.out | with_reducible refine bare10_set5 ?_ na.out na.out na.out na.out na.out nb.out nb.out nb.out nb.out nb.out | with_reducible refine bare10_keep ?_ bb | with_reducible refine bare10_keep ?_ bc | with_reducible refine bare10_keep ?_ ba | with_reducible refine bare10_keep ?_ ((Below.refl _ _).drew))))
    (first
      | (go_at_call 60; refine (lower_low _ _ s2 n2 d2 (HB.out.below (by repeat (first | with_reducible exact Below.refl _ _ | with_reducible refine Below.drew ?_ | with_reducible refine Below.then_below ?_ (alloc_below _ _))))).mono ?_; rintro e wa ⟨⟨ra, rfl, da⟩, ba⟩)
      | (go_at_call 59; refine (lowest_calls _ s2 _ _ (lowN d2) n2 da (N1.out.below (by repeat (first | with_reducible exact Below.refl _ _ | with_reducible refine Below.drew ?_ | with_reducible refine Below.then_below ?_ (alloc_below _ _) | with_reducible refine Below.then_below ?_ ba)))).mono ?_; rintro e wc ⟨⟨rc, rfl, dc⟩, bc⟩; replace dc := hide (low_inv (lowN_pos d2) hz'.out dc))
      | (go_at_call 58; refine (pmul_low _ _ _ s1 s2 n1 d1 (lowN d2) n2 K (HA.out.below (by repeat (first | with_reducible exact Below.refl _ _ | with_reducible refine Below.drew ?_ | with_reducible refine Below.then_below ?_ (alloc_below _ _) | with_reducible refine Below.then_below ?_ bc | with_reducible refine Below.then_below ?_ ba))) dc.out k1.out l1.out l2.out k2.out c1.out c3.out hK (TT.out.below (by repeat (first | with_reducible exact Below.refl _ _ | with_reducible refine Below.drew ?_ | with_reducible refine Below.then_below ?_ (alloc_below _ _) | with_reducible refine Below.then_below ?_ bc | with_reducible refine Below.then_below ?_ ba)))).mono ?_; rintro e wl ⟨⟨rl, rfl, ld⟩, bb⟩; obtain ⟨lb, nn, dd, hrd, hLow⟩ := Low.shape ld; obtain ⟨t1, t2, t3, t4, t5, t6, t7, t8, rfl, dn, dl⟩ := hrd.shape; have bwl : Below W0.heap.size W0 wl := (by repeat (first | with_reducible exact Below.refl _ _ | with_reducible refine Below.drew ?_ | with_reducible refine Below.then_below ?_ (alloc_below _ _) | with_reducible refine Below.then_below ?_ bb | with_reducible refine Below.then_below ?_ bc | with_reducible refine Below.then_below ?_ ba)); have R2 := kept_block R0.out bwl; obtain ⟨⟨o0, o1, o2, o3, o4⟩, of0, of1, of2, of3, of4⟩ := ratBox R2))
  go_wp2
  refine bodyPost_ret (v := .agg #[.bool lb, .int .u64 t1, .slice t2 t3 t4, .int .u64 t5, .slice t6 t7 t8]) (by simp [results, Tryz.results41, go_sem, o0, o1, o2, o3, o4]) rfl ?_
  have q := set5 wl (w.heap.size + 1 + 1) (.bool lb) (.int .u64 t1) (.slice t2 t3 t4) (.int .u64 t5) (.slice t6 t7 t8)
  exact ⟨⟨_, rfl, hLow.out _ _ (DenR.make dn dl R2 (nopair5 _ _ _ _ _ _ _ _ _) q)⟩, (B0.out.then_below bwl).then_grown q (by rintro g ⟨⟩; omega)⟩
end Go.Proofs.YtlepicdpelkmlaaGreatDoor
