/- Laid together of: RefAdd, RefPlusF, RefOpp, RefLessF. -/
import Derived.Test.YtlepicdpelkmlaaGreatDoorRefA
import Derived.Test.YtlepicdpelkmlaaGreatDoorRefB
import Derived.Test.YtlepicdpelkmlaaGreatDoorRefF
import Derived.Test.YtlepicdpelkmlaaGreatDoorMulB
import Derived.Test.YtlepicdpelkmlaaGreatDoorRefC
import Derived.Test.YtlepicdpelkmlaaGreatDoorNumA
/- ==== RefAdd ==== -/
namespace Go.Proofs.YtlepicdpelkmlaaGreatDoor
open Go.RowKit
set_option linter.unusedVariables false
theorem radd_step {y la lb : List Int} {k : Nat} {a b c : Int} (hk : k < y.length) (hy : y.getD k 0 = 0) (ha : la.getD k 0 = a) (hb : lb.getD k 0 = b)
    (hv : M.val M.NB y + M.NB ^ k * c = M.val M.NB (la.take k) + M.val M.NB (lb.take k)) :
    M.val M.NB (y.set k ((a + b + c) % 1000000000)) + M.NB ^ (k + 1) * ((a + b + c) / 1000000000) = M.val M.NB (la.take (k + 1)) + M.val M.NB (lb.take (k + 1)) := by
  rw [M.val_set _ _ _ hk, M.val_take_succ', M.val_take_succ', ha, hb, hy, Int.pow_succ]
  have h := Int.mul_ediv_add_emod (a + b + c) 1000000000
  rw [← M.NB_eq] at h ⊢
  generalize (a + b + c) % M.NB = p at *
  generalize (a + b + c) / M.NB = q at *
  generalize M.NB = B at *
  grind
theorem radd_top {v c A C : Int} {n : Nat} (h0 : 0 ≤ c) (h1 : c ≤ 1) (hv0 : 0 ≤ v) (hv : v + M.NB ^ (n + 1) * c = A + C) (hA : A < M.NB ^ n) (hC : C < M.NB ^ n) : c = 0 := by
  rcases Int.lt_or_le 0 c with h | h
  · obtain rfl : c = 1 := by omega
    rw [Int.mul_one, Int.pow_succ, M.NB_eq] at hv
    rw [M.NB_eq] at hA hC
    have hp : (0 : Int) < 1000000000 ^ n := Int.pow_pos (by decide)
    omega
  · omega
set_option maxRecDepth 100000 in
set_option maxHeartbeats 3200000 in
theorem rnatAdd_le (w : World) (va vb : Value) (la lb : List Int) (ra : RowM w va la) (rb : RowM w vb lb) (da : M.Dig M.NB la) (db : M.Dig M.NB lb)
    (na : la.length ≤ 17592186044416) (nb : lb.length ≤ 17592186044416) (hcase : lb.length ≤ la.length) :
    Calls Tryz.prog 64 #[va, vb] w fun e w' => (∃ v l, e = .returned v ∧ RowM w' v l ∧ M.Dig M.NB l ∧ M.Trm l ∧ M.val M.NB l = M.val M.NB la + M.val M.NB lb) ∧ Below w.heap.size w w' := by
  have RA := hide ra
  have RB := hide rb
  obtain ⟨aa, ca, rfl, a1, a2, a3, a4⟩ := ra
  obtain ⟨ab, cb, rfl, b1, b2, b3, b4⟩ := rb
  clear a4 b4
  go_enter Tryz.func64, Tryz.ntmps64
  go_wp2_with (at_make; refine wpList_make_row _ rfl _ _ _ rfl .i64 _ 8 sliceInt infoInt .i64 .i64 _ _ (la.length + 1) rfl rfl (by omega) (by omega) (by decide) (by omega) ?_; intro w1 z1 hz1 ho1 hg1 hs1)
  have B1 := grown_below hg1
  have hz1l : z1.length = la.length + 1 := by rw [hz1.out]; simp
  have hzd : M.Dig M.NB z1 := by rw [hz1.out]; exact M.Dig.replicate M.NB_pos _
  have hz0 : Hid (∀ j, 0 ≤ j → z1.getD j 0 = 0) := fun j _ => by
    rw [hz1.out, List.getD_eq_getElem?_getD, List.getElem?_replicate]
    split <;> rfl
  have hzv : Hid (M.val M.NB z1 + M.NB ^ 0 * 0 = M.val M.NB (la.take 0) + M.val M.NB (lb.take 0)) := by
    show _ = _
    have : M.val M.NB z1 = 0 := by rw [hz1.out]; exact M.val_replicate _
    rw [this]
    simp [M.val]
  clear hg1 hs1 hz1
  go_loopw [7, 8] (fun cv i wr => ∃ (k : Nat) (c : Int) (y : List Int), k ≤ la.length + 1 ∧ i = .int .i64 k ∧ cv = .int .i64 c ∧ 0 ≤ c ∧ c ≤ 1 ∧ Own .i64 3 wr w.heap.size y ∧ M.Dig M.NB y ∧ y.length = la.length + 1 ∧ Hid (∀ j, k ≤ j → y.getD j 0 = 0) ∧
      Hid (M.val M.NB y + M.NB ^ k * c = M.val M.NB (la.take k) + M.val M.NB (lb.take k)) ∧ Below w.heap.size w wr) (fun _ i _ => la.length + 2 - (intOf i).toNat)
  case atStart => exact ⟨0, 0, z1, Nat.zero_le _, rfl, rfl, by decide, by decide, ho1, hzd, hz1l, hz0, hzv, B1⟩
  case round =>
    clear ho1 hzd hz1l hz0 hzv B1
    obtain ⟨k, c, y, hk, rfl, rfl, hc0, hc1, hy, hyd, hyl, hy0, hv, hg⟩ := hrel
    by_cases hlt : k ≤ la.length
    · have hcy := hy.cell k (by omega)
      have hfy := hy.frozen k
      have hb1 := da.getD M.NB_pos k
      have hb2 := db.getD M.NB_pos k
      have q1 := hide (limb_calls wr _ la k (RA.out.below hg) (by omega))
      have q2 := hide (limb_calls wr _ lb k (RB.out.below hg) (by omega))
      generalize hx : la.getD k 0 = x at *
      generalize hyx : lb.getD k 0 = z at *
      have Hl := hide hyl
      rw [M.NB_eq] at hb1 hb2
      have t0 : 0 ≤ x + z + c := by omega
      have t1 : x + z + c ≤ 1999999999 := by omega
      have e1 : IntKind.i64.wrap (x + z) = x + z := by rw [IntKind.wrap_i64]; omega
      have e2 : IntKind.i64.wrap (x + z + c) = x + z + c := by rw [IntKind.wrap_i64]; omega
      have HS := hide (radd_step (by omega) (hy0.out k (Nat.le_refl _)) hx hyx hv.out)
      have HZ := hide (set_zeros (d := (x + z + c) % 1000000000) hy0.out)
      have HO := hide (hy.set k ((x + z + c) % 1000000000))
      have HG := hide (hg.then_grown (grown_set wr w.heap.size k (.int .i64 ((x + z + c) % 1000000000))) (by simp))
      have HDD := hide (hyd.set k (x := (x + z + c) % 1000000000) (by omega) (by rw [M.NB_eq]; omega))
      have d0 : 0 ≤ (x + z + c) / 1000000000 := by omega
      have d1 : (x + z + c) / 1000000000 ≤ 1 := by omega
      clear hx hyx hyl hy hyd hv hy0
      go_wp2_with (first
        | (go_at_call_of 87 (Value.slice aa la.length ca); refine q1.out.mono ?_; rintro e wq ⟨rfl, hw⟩; replace hw := hw.symm; subst hw)
        | (go_at_call_of 87 (Value.slice ab lb.length cb); refine q2.out.mono ?_; rintro e wq ⟨rfl, hw⟩; replace hw := hw.symm; subst hw))
      go_roundw
      case rel => exact ⟨k + 1, (x + z + c) / 1000000000, y.set k ((x + z + c) % 1000000000), by omega, by go_num, rfl, d0, d1, HO.out, HDD.out, by simpa using Hl.out, HZ, HS, HG.out⟩
      case measure => simp [intOf]; omega
    · obtain rfl : k = la.length + 1 := by omega
      have hv' := hv.out
      rw [List.take_of_length_le (by omega : la.length ≤ la.length + 1), List.take_of_length_le (by omega : lb.length ≤ la.length + 1)] at hv'
      have h3 := M.val_lt M.NB_pos hyd
      have h4 := M.val_lt M.NB_pos da
      have h5 := M.val_lt M.NB_pos db
      have hc00 : c = 0 := radd_top hc0 hc1 (M.val_nonneg M.NB_pos hyd) hv' (Int.lt_of_lt_of_le h4 (M.pow_le M.NB_pos (by omega))) (Int.lt_of_lt_of_le h5 (M.pow_le M.NB_pos (by omega)))
      subst hc00
      have HV : Hid (M.val M.NB y = M.val M.NB la + M.val M.NB lb) := by show _ = _; rw [Int.mul_zero, Int.add_zero] at hv'; exact hv'
      have RY := hy.all (la.length + 1) (by omega) (by omega)
      rw [hyl] at RY
      have q := hide (rtrim_calls wr _ y RY.m)
      clear hv' h3 h4 h5
      go_wp2_with fail
      refine q.out.mono ?_
      rintro e w2 ⟨⟨u, rfl, ru, fu⟩, hw2⟩
      rw [hw2]
      go_wp2
      go_ret
      exact ⟨⟨u, M.trimmed y, rfl, ru, M.trimmed_dig hyd, M.trimmed_trm _, by rw [M.trimmed_val]; exact HV.out⟩, hg⟩
set_option maxRecDepth 100000 in
set_option maxHeartbeats 3200000 in
theorem rnatAdd_gt (w : World) (va vb : Value) (la lb : List Int) (ra : RowM w va la) (rb : RowM w vb lb) (da : M.Dig M.NB la) (db : M.Dig M.NB lb)
    (na : la.length ≤ 17592186044416) (nb : lb.length ≤ 17592186044416) (hcase : la.length < lb.length) :
    Calls Tryz.prog 64 #[va, vb] w fun e w' => (∃ v l, e = .returned v ∧ RowM w' v l ∧ M.Dig M.NB l ∧ M.Trm l ∧ M.val M.NB l = M.val M.NB la + M.val M.NB lb) ∧ Below w.heap.size w w' := by
  have RA := hide ra
  have RB := hide rb
  obtain ⟨aa, ca, rfl, a1, a2, a3, a4⟩ := ra
  obtain ⟨ab, cb, rfl, b1, b2, b3, b4⟩ := rb
  clear a4 b4
  go_enter Tryz.func64, Tryz.ntmps64
  go_wp2_with (at_make; refine wpList_make_row _ rfl _ _ _ rfl .i64 _ 8 sliceInt infoInt .i64 .i64 _ _ (lb.length + 1) rfl rfl (by omega) (by omega) (by decide) (by omega) ?_; intro w1 z1 hz1 ho1 hg1 hs1)
  have B1 := grown_below hg1
  have hz1l : z1.length = lb.length + 1 := by rw [hz1.out]; simp
  have hzd : M.Dig M.NB z1 := by rw [hz1.out]; exact M.Dig.replicate M.NB_pos _
  have hz0 : Hid (∀ j, 0 ≤ j → z1.getD j 0 = 0) := fun j _ => by
    rw [hz1.out, List.getD_eq_getElem?_getD, List.getElem?_replicate]
    split <;> rfl
  have hzv : Hid (M.val M.NB z1 + M.NB ^ 0 * 0 = M.val M.NB (la.take 0) + M.val M.NB (lb.take 0)) := by
    show _ = _
    have : M.val M.NB z1 = 0 := by rw [hz1.out]; exact M.val_replicate _
    rw [this]
    simp [M.val]
  clear hg1 hs1 hz1
  go_loopw [7, 8] (fun cv i wr => ∃ (k : Nat) (c : Int) (y : List Int), k ≤ lb.length + 1 ∧ i = .int .i64 k ∧ cv = .int .i64 c ∧ 0 ≤ c ∧ c ≤ 1 ∧ Own .i64 3 wr w.heap.size y ∧ M.Dig M.NB y ∧ y.length = lb.length + 1 ∧ Hid (∀ j, k ≤ j → y.getD j 0 = 0) ∧
      Hid (M.val M.NB y + M.NB ^ k * c = M.val M.NB (la.take k) + M.val M.NB (lb.take k)) ∧ Below w.heap.size w wr) (fun _ i _ => lb.length + 2 - (intOf i).toNat)
  case atStart => exact ⟨0, 0, z1, Nat.zero_le _, rfl, rfl, by decide, by decide, ho1, hzd, hz1l, hz0, hzv, B1⟩
  case round =>
    clear ho1 hzd hz1l hz0 hzv B1
    obtain ⟨k, c, y, hk, rfl, rfl, hc0, hc1, hy, hyd, hyl, hy0, hv, hg⟩ := hrel
    by_cases hlt : k ≤ lb.length
    · have hcy := hy.cell k (by omega)
      have hfy := hy.frozen k
      have hb1 := da.getD M.NB_pos k
      have hb2 := db.getD M.NB_pos k
      have q1 := hide (limb_calls wr _ la k (RA.out.below hg) (by omega))
      have q2 := hide (limb_calls wr _ lb k (RB.out.below hg) (by omega))
      generalize hx : la.getD k 0 = x at *
      generalize hyx : lb.getD k 0 = z at *
      have Hl := hide hyl
      rw [M.NB_eq] at hb1 hb2
      have t0 : 0 ≤ x + z + c := by omega
      have t1 : x + z + c ≤ 1999999999 := by omega
      have e1 : IntKind.i64.wrap (x + z) = x + z := by rw [IntKind.wrap_i64]; omega
      have e2 : IntKind.i64.wrap (x + z + c) = x + z + c := by rw [IntKind.wrap_i64]; omega
      have HS := hide (radd_step (by omega) (hy0.out k (Nat.le_refl _)) hx hyx hv.out)
      have HZ := hide (set_zeros (d := (x + z + c) % 1000000000) hy0.out)
      have HO := hide (hy.set k ((x + z + c) % 1000000000))
      have HG := hide (hg.then_grown (grown_set wr w.heap.size k (.int .i64 ((x + z + c) % 1000000000))) (by simp))
      have HDD := hide (hyd.set k (x := (x + z + c) % 1000000000) (by omega) (by rw [M.NB_eq]; omega))
      have d0 : 0 ≤ (x + z + c) / 1000000000 := by omega
      have d1 : (x + z + c) / 1000000000 ≤ 1 := by omega
      clear hx hyx hyl hy hyd hv hy0
      go_wp2_with (first
        | (go_at_call_of 87 (Value.slice aa la.length ca); refine q1.out.mono ?_; rintro e wq ⟨rfl, hw⟩; replace hw := hw.symm; subst hw)
        | (go_at_call_of 87 (Value.slice ab lb.length cb); refine q2.out.mono ?_; rintro e wq ⟨rfl, hw⟩; replace hw := hw.symm; subst hw))
      go_roundw
      case rel => exact ⟨k + 1, (x + z + c) / 1000000000, y.set k ((x + z + c) % 1000000000), by omega, by go_num, rfl, d0, d1, HO.out, HDD.out, by simpa using Hl.out, HZ, HS, HG.out⟩
      case measure => simp [intOf]; omega
    · obtain rfl : k = lb.length + 1 := by omega
      have hv' := hv.out
      rw [List.take_of_length_le (by omega : la.length ≤ lb.length + 1), List.take_of_length_le (by omega : lb.length ≤ lb.length + 1)] at hv'
      have h3 := M.val_lt M.NB_pos hyd
      have h4 := M.val_lt M.NB_pos da
      have h5 := M.val_lt M.NB_pos db
      have hc00 : c = 0 := radd_top hc0 hc1 (M.val_nonneg M.NB_pos hyd) hv' (Int.lt_of_lt_of_le h4 (M.pow_le M.NB_pos (by omega))) (Int.lt_of_lt_of_le h5 (M.pow_le M.NB_pos (by omega)))
      subst hc00
      have HV : Hid (M.val M.NB y = M.val M.NB la + M.val M.NB lb) := by show _ = _; rw [Int.mul_zero, Int.add_zero] at hv'; exact hv'
      have RY := hy.all (lb.length + 1) (by omega) (by omega)
      rw [hyl] at RY
      have q := hide (rtrim_calls wr _ y RY.m)
      clear hv' h3 h4 h5
      go_wp2_with fail
      refine q.out.mono ?_
      rintro e w2 ⟨⟨u, rfl, ru, fu⟩, hw2⟩
      rw [hw2]
      go_wp2
      go_ret
      exact ⟨⟨u, M.trimmed y, rfl, ru, M.trimmed_dig hyd, M.trimmed_trm _, by rw [M.trimmed_val]; exact HV.out⟩, hg⟩
theorem addRN (w : World) (va vb : Value) (a b K : Nat) (ha : RN w va a) (hb : RN w vb b) (ka : (a : Int) < M.NB ^ K) (kb : (b : Int) < M.NB ^ K) (hK : K ≤ 17592186044416) :
    Calls Tryz.prog 64 #[va, vb] w fun e w' => (∃ v, e = .returned v ∧ RN w' v (a + b)) ∧ Below w.heap.size w w' := by
  obtain ⟨la, ra, da, ta, va'⟩ := ha
  obtain ⟨lb, rb, db, tb, vb'⟩ := hb
  have na : la.length ≤ K := RN.len (w := w) (v := va) da ta va' ka
  have nb : lb.length ≤ K := RN.len (w := w) (v := vb) db tb vb' kb
  have fin : ∀ (e : Ending) (w' : World), ((∃ v l, e = .returned v ∧ RowM w' v l ∧ M.Dig M.NB l ∧ M.Trm l ∧ M.val M.NB l = M.val M.NB la + M.val M.NB lb) ∧ Below w.heap.size w w') → (∃ v, e = .returned v ∧ RN w' v (a + b)) ∧ Below w.heap.size w w' := by
    rintro e w' ⟨⟨v, l, rfl, h1, h2, h3, h4⟩, h5⟩
    exact ⟨⟨v, rfl, l, h1, h2, h3, by rw [h4, va', vb']; simp⟩, h5⟩
  by_cases h : lb.length ≤ la.length
  · exact (rnatAdd_le w va vb la lb ra rb da db (by omega) (by omega) h).mono fin
  · exact (rnatAdd_gt w va vb la lb ra rb da db (by omega) (by omega) (by omega)).mono fin
end Go.Proofs.YtlepicdpelkmlaaGreatDoor
/- ==== RefPlusF ==== -/
namespace Go.Proofs.YtlepicdpelkmlaaGreatDoor
open Go.RowKit
set_option linter.unusedVariables false
theorem one_keep {W W2 : World} {a : Addr} {v : Value} (h : W.cell? a = some v) (b : Below W.heap.size W W2) : W2.cell? a = some v := by
  rw [b.cell (World.block_lt_of_cell? W _ h)]; exact h
theorem one_set3 {W : World} {a : Addr} {v x y z : Value} {H : Nat} (h : W.cell? a = some v) (n : a.block ≠ H) : (((W.setCell ⟨H, 0, none⟩ x).setCell ⟨H, 1, none⟩ y).setCell ⟨H, 2, none⟩ z).cell? a = some v :=
  (set3 W H x y z).cell h (by simpa using n)
theorem NB_up {a K : Nat} (h : (a : Int) < M.NB ^ K) : (a : Int) < M.NB ^ (K + 1) := Int.lt_of_lt_of_le h (M.pow_le M.NB_pos (by omega))
theorem add_NB {a b K : Nat} (ha : (a : Int) < M.NB ^ K) (hb : (b : Int) < M.NB ^ K) : ((a + b : Nat) : Int) < M.NB ^ (K + 1) := by
  have e2 : M.NB ^ (K + 1) = M.NB ^ K * 1000000000 := by rw [Int.pow_succ]; rfl
  rw [e2]
  omega
theorem sub_NB {a b K : Nat} (ha : (a : Int) < M.NB ^ K) : ((a - b : Nat) : Int) < M.NB ^ (K + 1) := by
  refine Int.lt_of_le_of_lt ?_ (NB_up ha)
  exact_mod_cast Nat.sub_le a b
theorem cmpRN_c (w : World) (va vb : Value) (a b : Nat) (c : Int) (hc : M.cmp a b = c) (ha : RN w va a) (hb : RN w vb b) :
    Calls Tryz.prog 46 #[va, vb] w fun e w' => e = .returned (.int .i64 c) ∧ Below w.heap.size w w' := by
  rw [← hc]
  exact cmpRN w va vb a b ha hb
set_option maxRecDepth 100000 in
set_option maxHeartbeats 8000000 in
theorem rplus_same (w : World) (va vb : Value) (s1 s2 : Bool) (hs : s1 = s2) (n1 d1 n2 d2 K : Nat) (ha : RR w va s1 n1 d1) (hb : RR w vb s2 n2 d2) (hd1 : 0 < d1) (hd2 : 0 < d2) (k1 : (n1 : Int) < M.NB ^ K) (l1 : (d1 : Int) < M.NB ^ K) (k2 : (n2 : Int) < M.NB ^ K) (l2 : (d2 : Int) < M.NB ^ K) (hK : 2 * K + 1 ≤ 17592186044) (hK1 : 1 ≤ K) :
    Calls Tryz.prog 48 #[va, vb] w fun e w' => (∃ v, e = .returned v ∧ RR w' v (s1 && !decide (n1 * d2 + n2 * d1 = 0)) ((n1 * d2 + n2 * d1) / Nat.gcd (n1 * d2 + n2 * d1) (d1 * d2)) (d1 * d2 / Nat.gcd (n1 * d2 + n2 * d1) (d1 * d2))) ∧ Below w.heap.size w w' := by
  subst hs
  obtain ⟨na, nl, nc, da, dl, dc, rfl, a1, a2⟩ := ha
  obtain ⟨pa, pl, pc, ra, rl, rc, rfl, b1, b2⟩ := hb
  have kx := hide (mul_NB k1 l2)
  have ky := hide (mul_NB k2 l1)
  have kD := hide (mul_NB l1 l2)
  have hdd : Hid (0 < d1 * d2) := Nat.mul_pos hd1 hd2
  replace k1 := hide k1
  replace k2 := hide k2
  replace l1 := hide l1
  replace l2 := hide l2
  replace a1 := hide a1
  replace a2 := hide a2
  replace b1 := hide b1
  replace b2 := hide b2
  have z1 : (w.alloc (.cells #[.bool s1, .slice na nl nc, .slice da dl dc] 77)).heap.size = w.heap.size + 1 := by show (w.heap.push _).size = _; simp
  have z2 : ((w.alloc (.cells #[.bool s1, .slice na nl nc, .slice da dl dc] 77)).alloc (.cells #[.bool s1, .slice pa pl pc, .slice ra rl rc] 77)).heap.size = w.heap.size + 1 + 1 := by show ((w.heap.push _).push _).size = _; simp
  have P0 := kept_block (kept_block (heap_alloc_new w (.cells #[.bool s1, .slice na nl nc, .slice da dl dc] 77)) (alloc_below _ (.cells #[.bool s1, .slice pa pl pc, .slice ra rl rc] 77))) (alloc_below _ (.cells #[.bool false, .slice none 0 0, .slice none 0 0] 77))
  have Q0 := kept_block (heap_alloc_new (w.alloc (.cells #[.bool s1, .slice na nl nc, .slice da dl dc] 77)) (.cells #[.bool s1, .slice pa pl pc, .slice ra rl rc] 77)) (alloc_below _ (.cells #[.bool false, .slice none 0 0, .slice none 0 0] 77))
  have R0 := heap_alloc_new ((w.alloc (.cells #[.bool s1, .slice na nl nc, .slice da dl dc] 77)).alloc (.cells #[.bool s1, .slice pa pl pc, .slice ra rl rc] 77)) (.cells #[.bool false, .slice none 0 0, .slice none 0 0] 77)
  rw [z1] at Q0
  rw [z2] at R0
  have B0 := (alloc2_below w (.cells #[.bool s1, .slice na nl nc, .slice da dl dc] 77) (.cells #[.bool s1, .slice pa pl pc, .slice ra rl rc] 77)).then_below (alloc_below _ (.cells #[.bool false, .slice none 0 0, .slice none 0 0] 77))
  obtain ⟨W0, hW0⟩ : ∃ W0, ((w.alloc (.cells #[.bool s1, .slice na nl nc, .slice da dl dc] 77)).alloc (.cells #[.bool s1, .slice pa pl pc, .slice ra rl rc] 77)).alloc (.cells #[.bool false, .slice none 0 0, .slice none 0 0] 77) = W0 := ⟨_, rfl⟩
  rw [hW0] at P0 Q0 R0 B0
  replace P0 := hide P0
  replace Q0 := hide Q0
  replace R0 := hide R0
  replace B0 := hide B0
  clear z1 z2
  obtain ⟨p0, p1, p2, -, -, -⟩ := box3 P0.out
  obtain ⟨r0, r1, r2, -, -, -⟩ := box3 Q0.out
  have HA1 := hide (a1.out.below B0.out)
  have HA2 := hide (a2.out.below B0.out)
  have HB1 := hide (b1.out.below B0.out)
  have HB2 := hide (b2.out.below B0.out)
  clear a1 a2 b1 b2
  go_enter Tryz.func48, Tryz.ntmps48
  go_upto_region 5 with (first
    | (go_at_call_of 53 (Value.slice na nl nc); refine (mulRN _ _ _ n1 d2 K HA1.out HB2.out k1.out l2.out (by omega)).mono ?_; rintro e wa ⟨⟨vx, rfl, mx⟩, ba⟩; obtain ⟨x0, x1, x2, -, -, -⟩ := box3 (kept_block P0.out ba); obtain ⟨y0, y1, y2, -, -, -⟩ := box3 (kept_block Q0.out ba); replace mx := hide mx; replace ba := hide ba)
    | (go_at_call_of 53 (Value.slice pa pl pc); refine (mulRN _ _ _ n2 d1 K (HB1.out.below ba.out) (HA2.out.below ba.out) k2.out l1.out (by omega)).mono ?_; rintro e wb ⟨⟨vy, rfl, my⟩, bb⟩; obtain ⟨x0, x1, x2, -, -, -⟩ := box3 (kept_block P0.out (ba.out.then_below bb)); obtain ⟨y0, y1, y2, -, -, -⟩ := box3 (kept_block Q0.out (ba.out.then_below bb)); replace mx := hide (mx.out.below bb); replace my := hide my; replace bb := hide (ba.out.then_below bb))
    | (go_at_call_of 53 (Value.slice da dl dc); refine (mulRN _ _ _ d1 d2 K (HA2.out.below bb.out) (HB2.out.below bb.out) l1.out l2.out (by omega)).mono ?_; rintro e wc ⟨⟨vd, rfl, md⟩, bc⟩; obtain ⟨x0, x1, x2, -, -, -⟩ := box3 (kept_block P0.out (bb.out.then_below bc)); obtain ⟨y0, y1, y2, -, -, -⟩ := box3 (kept_block Q0.out (bb.out.then_below bc)); replace mx := hide (mx.out.below bc); replace my := hide (my.out.below bc); replace md := hide md; replace bc := hide (bb.out.then_below bc)))
  have BZ := bc
  rename World => wz
  have S0 : Hid (wz.cell? ⟨w.heap.size, 0, none⟩ = some (.bool s1)) := x0
  have nG : Hid (w.heap.size ≠ w.heap.size + 1 + 1) := by show w.heap.size ≠ _; omega
  have R1 := hide (kept_block R0.out BZ.out)
  go_region_held3
    (fun w' => w'.cell? ⟨w.heap.size, 0, none⟩ = some (.bool s1))
    ((repeat (first | with_reducible exact S0.out | with_reducible refine one_set3 ?_ nG.out | with_reducible refine one_keep ?_ bf | with_reducible refine one_keep ?_ be | with_reducible refine one_keep ?_ ((Below.refl _ _).drew))))
    (first
      | (go_at_call 64; refine (addRN _ _ _ (n1 * d2) (n2 * d1) (2 * K) (mx.out.below (by repeat (first | with_reducible exact Below.refl _ _ | with_reducible refine Below.drew ?_ | with_reducible refine Below.then_below ?_ (alloc_below _ _)))) (my.out.below (by repeat (first | with_reducible exact Below.refl _ _ | with_reducible refine Below.drew ?_ | with_reducible refine Below.then_below ?_ (alloc_below _ _)))) kx.out ky.out (by omega)).mono ?_; rintro e we ⟨⟨ve, rfl, me⟩, be⟩)
      | (go_at_call 52; refine (ratio_calls _ s1 _ _ (n1 * d2 + n2 * d1) (d1 * d2) (2 * K + 1) me (md.out.below (by repeat (first | with_reducible exact Below.refl _ _ | with_reducible refine Below.drew ?_ | with_reducible refine Below.then_below ?_ (alloc_below _ _) | with_reducible refine Below.then_below ?_ be))) hdd.out (add_NB kx.out ky.out) (NB_up kD.out) (by omega) (by omega)).mono ?_; rintro e wf ⟨⟨vf, rfl, mf⟩, bf⟩; obtain ⟨sb, hsb⟩ : ∃ sb : Bool, Hid ((s1 && !decide (n1 * d2 + n2 * d1 = 0)) = sb) := ⟨_, rfl⟩; rw [hsb.out] at mf; obtain ⟨ua, ul, uc, ta, tl, tc, rfl, m1, m2⟩ := mf; have bwf : Below wz.heap.size wz wf := (by repeat (first | with_reducible exact Below.refl _ _ | with_reducible refine Below.drew ?_ | with_reducible refine Below.then_below ?_ (alloc_below _ _) | with_reducible refine Below.then_below ?_ bf | with_reducible refine Below.then_below ?_ be)); have R2 := hide (kept_block R1.out bwf); obtain ⟨q0, q1, q2, f0, f1, f2⟩ := box3 R2.out))
  go_wp2
  refine bodyPost_ret (v := .agg #[.bool sb, .slice ua ul uc, .slice ta tl tc]) (by simp [results, Tryz.results48, go_sem, q0, q1, q2]) rfl ?_
  rw [hsb.out]
  have q := set3 wf (w.heap.size + 1 + 1) (.bool sb) (.slice ua ul uc) (.slice ta tl tc)
  exact ⟨⟨_, rfl, ua, ul, uc, ta, tl, tc, rfl, m1.past R2.out q, m2.past R2.out q⟩, ((B0.out.then_below BZ.out).then_below bwf).then_grown q (by rintro g ⟨⟩; omega)⟩
set_option maxRecDepth 100000 in
set_option maxHeartbeats 8000000 in
theorem rplus_ge (w : World) (va vb : Value) (s1 s2 : Bool) (hs : s1 ≠ s2) (n1 d1 n2 d2 K : Nat) (ha : RR w va s1 n1 d1) (hb : RR w vb s2 n2 d2) (hd1 : 0 < d1) (hd2 : 0 < d2) (k1 : (n1 : Int) < M.NB ^ K) (l1 : (d1 : Int) < M.NB ^ K) (k2 : (n2 : Int) < M.NB ^ K) (l2 : (d2 : Int) < M.NB ^ K) (hK : 2 * K + 1 ≤ 17592186044) (hK1 : 1 ≤ K) (hle : n2 * d1 ≤ n1 * d2) :
    Calls Tryz.prog 48 #[va, vb] w fun e w' => (∃ v, e = .returned v ∧ RR w' v (s1 && !decide (n1 * d2 - n2 * d1 = 0)) ((n1 * d2 - n2 * d1) / Nat.gcd (n1 * d2 - n2 * d1) (d1 * d2)) (d1 * d2 / Nat.gcd (n1 * d2 - n2 * d1) (d1 * d2))) ∧ Below w.heap.size w w' := by
  obtain ⟨na, nl, nc, da, dl, dc, rfl, a1, a2⟩ := ha
  obtain ⟨pa, pl, pc, ra, rl, rc, rfl, b1, b2⟩ := hb
  have kx := hide (mul_NB k1 l2)
  have ky := hide (mul_NB k2 l1)
  have kD := hide (mul_NB l1 l2)
  have hdd : Hid (0 < d1 * d2) := Nat.mul_pos hd1 hd2
  replace k1 := hide k1
  replace k2 := hide k2
  replace l1 := hide l1
  replace l2 := hide l2
  replace a1 := hide a1
  replace a2 := hide a2
  replace b1 := hide b1
  replace b2 := hide b2
  have z1 : (w.alloc (.cells #[.bool s1, .slice na nl nc, .slice da dl dc] 77)).heap.size = w.heap.size + 1 := by show (w.heap.push _).size = _; simp
  have z2 : ((w.alloc (.cells #[.bool s1, .slice na nl nc, .slice da dl dc] 77)).alloc (.cells #[.bool s2, .slice pa pl pc, .slice ra rl rc] 77)).heap.size = w.heap.size + 1 + 1 := by show ((w.heap.push _).push _).size = _; simp
  have P0 := kept_block (kept_block (heap_alloc_new w (.cells #[.bool s1, .slice na nl nc, .slice da dl dc] 77)) (alloc_below _ (.cells #[.bool s2, .slice pa pl pc, .slice ra rl rc] 77))) (alloc_below _ (.cells #[.bool false, .slice none 0 0, .slice none 0 0] 77))
  have Q0 := kept_block (heap_alloc_new (w.alloc (.cells #[.bool s1, .slice na nl nc, .slice da dl dc] 77)) (.cells #[.bool s2, .slice pa pl pc, .slice ra rl rc] 77)) (alloc_below _ (.cells #[.bool false, .slice none 0 0, .slice none 0 0] 77))
  have R0 := heap_alloc_new ((w.alloc (.cells #[.bool s1, .slice na nl nc, .slice da dl dc] 77)).alloc (.cells #[.bool s2, .slice pa pl pc, .slice ra rl rc] 77)) (.cells #[.bool false, .slice none 0 0, .slice none 0 0] 77)
  rw [z1] at Q0
  rw [z2] at R0
  have B0 := (alloc2_below w (.cells #[.bool s1, .slice na nl nc, .slice da dl dc] 77) (.cells #[.bool s2, .slice pa pl pc, .slice ra rl rc] 77)).then_below (alloc_below _ (.cells #[.bool false, .slice none 0 0, .slice none 0 0] 77))
  obtain ⟨W0, hW0⟩ : ∃ W0, ((w.alloc (.cells #[.bool s1, .slice na nl nc, .slice da dl dc] 77)).alloc (.cells #[.bool s2, .slice pa pl pc, .slice ra rl rc] 77)).alloc (.cells #[.bool false, .slice none 0 0, .slice none 0 0] 77) = W0 := ⟨_, rfl⟩
  rw [hW0] at P0 Q0 R0 B0
  replace P0 := hide P0
  replace Q0 := hide Q0
  replace R0 := hide R0
  replace B0 := hide B0
  clear z1 z2
  obtain ⟨p0, p1, p2, -, -, -⟩ := box3 P0.out
  obtain ⟨r0, r1, r2, -, -, -⟩ := box3 Q0.out
  have HA1 := hide (a1.out.below B0.out)
  have HA2 := hide (a2.out.below B0.out)
  have HB1 := hide (b1.out.below B0.out)
  have HB2 := hide (b2.out.below B0.out)
  clear a1 a2 b1 b2
  have hc := cmp_ge hle
  have hne : (s1 == s2) = false := by simpa using hs
  generalize hcc : M.cmp (n1 * d2 : Nat) (n2 * d1 : Nat) = c at *
  replace hcc := hide hcc
  replace hle := hide hle
  go_enter Tryz.func48, Tryz.ntmps48
  go_upto_region 7 with (first
    | (go_at_call_of 53 (Value.slice na nl nc); refine (mulRN _ _ _ n1 d2 K HA1.out HB2.out k1.out l2.out (by omega)).mono ?_; rintro e wa ⟨⟨vx, rfl, mx⟩, ba⟩; obtain ⟨x0, x1, x2, -, -, -⟩ := box3 (kept_block P0.out ba); obtain ⟨y0, y1, y2, -, -, -⟩ := box3 (kept_block Q0.out ba); replace mx := hide mx; replace ba := hide ba)
    | (go_at_call_of 53 (Value.slice pa pl pc); refine (mulRN _ _ _ n2 d1 K (HB1.out.below ba.out) (HA2.out.below ba.out) k2.out l1.out (by omega)).mono ?_; rintro e wb ⟨⟨vy, rfl, my⟩, bb⟩; obtain ⟨x0, x1, x2, -, -, -⟩ := box3 (kept_block P0.out (ba.out.then_below bb)); obtain ⟨y0, y1, y2, -, -, -⟩ := box3 (kept_block Q0.out (ba.out.then_below bb)); replace mx := hide (mx.out.below bb); replace my := hide my; replace bb := hide (ba.out.then_below bb))
    | (go_at_call_of 53 (Value.slice da dl dc); refine (mulRN _ _ _ d1 d2 K (HA2.out.below bb.out) (HB2.out.below bb.out) l1.out l2.out (by omega)).mono ?_; rintro e wc ⟨⟨vd, rfl, md⟩, bc⟩; obtain ⟨x0, x1, x2, -, -, -⟩ := box3 (kept_block P0.out (bb.out.then_below bc)); obtain ⟨y0, y1, y2, -, -, -⟩ := box3 (kept_block Q0.out (bb.out.then_below bc)); replace mx := hide (mx.out.below bc); replace my := hide (my.out.below bc); replace md := hide md; replace bc := hide (bb.out.then_below bc))
    | (go_at_call 46; refine (cmpRN_c _ _ _ (n1 * d2) (n2 * d1) c hcc.out mx.out my.out).mono ?_; rintro e wz ⟨rfl, bz⟩; obtain ⟨x0, x1, x2, -, -, -⟩ := box3 (kept_block P0.out (bc.out.then_below bz)); obtain ⟨y0, y1, y2, -, -, -⟩ := box3 (kept_block Q0.out (bc.out.then_below bz)); replace mx := hide (mx.out.below bz); replace my := hide (my.out.below bz); replace md := hide (md.out.below bz); replace bz := hide (bc.out.then_below bz)))
  have BZ := bz
  have S0 : Hid (wz.cell? ⟨w.heap.size, 0, none⟩ = some (.bool s1)) := x0
  have nG : Hid (w.heap.size ≠ w.heap.size + 1 + 1) := by show w.heap.size ≠ _; omega
  have R1 := hide (kept_block R0.out BZ.out)
  go_region_held3
    (fun w' => w'.cell? ⟨w.heap.size, 0, none⟩ = some (.bool s1))
    ((repeat (first | with_reducible exact S0.out | with_reducible refine one_set3 ?_ nG.out | with_reducible refine one_keep ?_ bf | with_reducible refine one_keep ?_ be | with_reducible refine one_keep ?_ ((Below.refl _ _).drew))))
    (first
      | (go_at_call 65; refine (subRN _ _ _ (n1 * d2) (n2 * d1) (2 * K) (mx.out.below (by repeat (first | with_reducible exact Below.refl _ _ | with_reducible refine Below.drew ?_ | with_reducible refine Below.then_below ?_ (alloc_below _ _)))) (my.out.below (by repeat (first | with_reducible exact Below.refl _ _ | with_reducible refine Below.drew ?_ | with_reducible refine Below.then_below ?_ (alloc_below _ _)))) kx.out hle.out (by omega)).mono ?_; rintro e we ⟨⟨ve, rfl, me⟩, be⟩)
      | (go_at_call 52; refine (ratio_calls _ s1 _ _ (n1 * d2 - n2 * d1) (d1 * d2) (2 * K + 1) me (md.out.below (by repeat (first | with_reducible exact Below.refl _ _ | with_reducible refine Below.drew ?_ | with_reducible refine Below.then_below ?_ (alloc_below _ _) | with_reducible refine Below.then_below ?_ be))) hdd.out (sub_NB kx.out) (NB_up kD.out) (by omega) (by omega)).mono ?_; rintro e wf ⟨⟨vf, rfl, mf⟩, bf⟩; obtain ⟨sb, hsb⟩ : ∃ sb : Bool, Hid ((s1 && !decide (n1 * d2 - n2 * d1 = 0)) = sb) := ⟨_, rfl⟩; rw [hsb.out] at mf; obtain ⟨ua, ul, uc, ta, tl, tc, rfl, m1, m2⟩ := mf; have bwf : Below wz.heap.size wz wf := (by repeat (first | with_reducible exact Below.refl _ _ | with_reducible refine Below.drew ?_ | with_reducible refine Below.then_below ?_ (alloc_below _ _) | with_reducible refine Below.then_below ?_ bf | with_reducible refine Below.then_below ?_ be)); have R2 := hide (kept_block R1.out bwf); obtain ⟨q0, q1, q2, f0, f1, f2⟩ := box3 R2.out))
  go_wp2
  refine bodyPost_ret (v := .agg #[.bool sb, .slice ua ul uc, .slice ta tl tc]) (by simp [results, Tryz.results48, go_sem, q0, q1, q2]) rfl ?_
  rw [hsb.out]
  have q := set3 wf (w.heap.size + 1 + 1) (.bool sb) (.slice ua ul uc) (.slice ta tl tc)
  exact ⟨⟨_, rfl, ua, ul, uc, ta, tl, tc, rfl, m1.past R2.out q, m2.past R2.out q⟩, ((B0.out.then_below BZ.out).then_below bwf).then_grown q (by rintro g ⟨⟩; omega)⟩
set_option maxRecDepth 100000 in
set_option maxHeartbeats 8000000 in
theorem rplus_lt (w : World) (va vb : Value) (s1 s2 : Bool) (hs : s1 ≠ s2) (n1 d1 n2 d2 K : Nat) (ha : RR w va s1 n1 d1) (hb : RR w vb s2 n2 d2) (hd1 : 0 < d1) (hd2 : 0 < d2) (k1 : (n1 : Int) < M.NB ^ K) (l1 : (d1 : Int) < M.NB ^ K) (k2 : (n2 : Int) < M.NB ^ K) (l2 : (d2 : Int) < M.NB ^ K) (hK : 2 * K + 1 ≤ 17592186044) (hK1 : 1 ≤ K) (hle : ¬ n2 * d1 ≤ n1 * d2) :
    Calls Tryz.prog 48 #[va, vb] w fun e w' => (∃ v, e = .returned v ∧ RR w' v (s2 && !decide (n2 * d1 - n1 * d2 = 0)) ((n2 * d1 - n1 * d2) / Nat.gcd (n2 * d1 - n1 * d2) (d1 * d2)) (d1 * d2 / Nat.gcd (n2 * d1 - n1 * d2) (d1 * d2))) ∧ Below w.heap.size w w' := by
  obtain ⟨na, nl, nc, da, dl, dc, rfl, a1, a2⟩ := ha
  obtain ⟨pa, pl, pc, ra, rl, rc, rfl, b1, b2⟩ := hb
  have kx := hide (mul_NB k1 l2)
  have ky := hide (mul_NB k2 l1)
  have kD := hide (mul_NB l1 l2)
  have hdd : Hid (0 < d1 * d2) := Nat.mul_pos hd1 hd2
  replace k1 := hide k1
  replace k2 := hide k2
  replace l1 := hide l1
  replace l2 := hide l2
  replace a1 := hide a1
  replace a2 := hide a2
  replace b1 := hide b1
  replace b2 := hide b2
  have z1 : (w.alloc (.cells #[.bool s1, .slice na nl nc, .slice da dl dc] 77)).heap.size = w.heap.size + 1 := by show (w.heap.push _).size = _; simp
  have z2 : ((w.alloc (.cells #[.bool s1, .slice na nl nc, .slice da dl dc] 77)).alloc (.cells #[.bool s2, .slice pa pl pc, .slice ra rl rc] 77)).heap.size = w.heap.size + 1 + 1 := by show ((w.heap.push _).push _).size = _; simp
  have P0 := kept_block (kept_block (heap_alloc_new w (.cells #[.bool s1, .slice na nl nc, .slice da dl dc] 77)) (alloc_below _ (.cells #[.bool s2, .slice pa pl pc, .slice ra rl rc] 77))) (alloc_below _ (.cells #[.bool false, .slice none 0 0, .slice none 0 0] 77))
  have Q0 := kept_block (heap_alloc_new (w.alloc (.cells #[.bool s1, .slice na nl nc, .slice da dl dc] 77)) (.cells #[.bool s2, .slice pa pl pc, .slice ra rl rc] 77)) (alloc_below _ (.cells #[.bool false, .slice none 0 0, .slice none 0 0] 77))
  have R0 := heap_alloc_new ((w.alloc (.cells #[.bool s1, .slice na nl nc, .slice da dl dc] 77)).alloc (.cells #[.bool s2, .slice pa pl pc, .slice ra rl rc] 77)) (.cells #[.bool false, .slice none 0 0, .slice none 0 0] 77)
  rw [z1] at Q0
  rw [z2] at R0
  have B0 := (alloc2_below w (.cells #[.bool s1, .slice na nl nc, .slice da dl dc] 77) (.cells #[.bool s2, .slice pa pl pc, .slice ra rl rc] 77)).then_below (alloc_below _ (.cells #[.bool false, .slice none 0 0, .slice none 0 0] 77))
  obtain ⟨W0, hW0⟩ : ∃ W0, ((w.alloc (.cells #[.bool s1, .slice na nl nc, .slice da dl dc] 77)).alloc (.cells #[.bool s2, .slice pa pl pc, .slice ra rl rc] 77)).alloc (.cells #[.bool false, .slice none 0 0, .slice none 0 0] 77) = W0 := ⟨_, rfl⟩
  rw [hW0] at P0 Q0 R0 B0
  replace P0 := hide P0
  replace Q0 := hide Q0
  replace R0 := hide R0
  replace B0 := hide B0
  clear z1 z2
  obtain ⟨p0, p1, p2, -, -, -⟩ := box3 P0.out
  obtain ⟨r0, r1, r2, -, -, -⟩ := box3 Q0.out
  have HA1 := hide (a1.out.below B0.out)
  have HA2 := hide (a2.out.below B0.out)
  have HB1 := hide (b1.out.below B0.out)
  have HB2 := hide (b2.out.below B0.out)
  clear a1 a2 b1 b2
  have hc := cmp_lt hle
  have hne : (s1 == s2) = false := by simpa using hs
  generalize hcc : M.cmp (n1 * d2 : Nat) (n2 * d1 : Nat) = c at *
  replace hcc := hide hcc
  have hle2 : Hid (n1 * d2 ≤ n2 * d1) := by show n1 * d2 ≤ n2 * d1; omega
  clear hle
  go_enter Tryz.func48, Tryz.ntmps48
  go_upto_region 8 with (first
    | (go_at_call_of 53 (Value.slice na nl nc); refine (mulRN _ _ _ n1 d2 K HA1.out HB2.out k1.out l2.out (by omega)).mono ?_; rintro e wa ⟨⟨vx, rfl, mx⟩, ba⟩; obtain ⟨x0, x1, x2, -, -, -⟩ := box3 (kept_block P0.out ba); obtain ⟨y0, y1, y2, -, -, -⟩ := box3 (kept_block Q0.out ba); replace mx := hide mx; replace ba := hide ba)
    | (go_at_call_of 53 (Value.slice pa pl pc); refine (mulRN _ _ _ n2 d1 K (HB1.out.below ba.out) (HA2.out.below ba.out) k2.out l1.out (by omega)).mono ?_; rintro e wb ⟨⟨vy, rfl, my⟩, bb⟩; obtain ⟨x0, x1, x2, -, -, -⟩ := box3 (kept_block P0.out (ba.out.then_below bb)); obtain ⟨y0, y1, y2, -, -, -⟩ := box3 (kept_block Q0.out (ba.out.then_below bb)); replace mx := hide (mx.out.below bb); replace my := hide my; replace bb := hide (ba.out.then_below bb))
    | (go_at_call_of 53 (Value.slice da dl dc); refine (mulRN _ _ _ d1 d2 K (HA2.out.below bb.out) (HB2.out.below bb.out) l1.out l2.out (by omega)).mono ?_; rintro e wc ⟨⟨vd, rfl, md⟩, bc⟩; obtain ⟨x0, x1, x2, -, -, -⟩ := box3 (kept_block P0.out (bb.out.then_below bc)); obtain ⟨y0, y1, y2, -, -, -⟩ := box3 (kept_block Q0.out (bb.out.then_below bc)); replace mx := hide (mx.out.below bc); replace my := hide (my.out.below bc); replace md := hide md; replace bc := hide (bb.out.then_below bc))
    | (go_at_call 46; refine (cmpRN_c _ _ _ (n1 * d2) (n2 * d1) c hcc.out mx.out my.out).mono ?_; rintro e wz ⟨rfl, bz⟩; obtain ⟨x0, x1, x2, -, -, -⟩ := box3 (kept_block P0.out (bc.out.then_below bz)); obtain ⟨y0, y1, y2, -, -, -⟩ := box3 (kept_block Q0.out (bc.out.then_below bz)); replace mx := hide (mx.out.below bz); replace my := hide (my.out.below bz); replace md := hide (md.out.below bz); replace bz := hide (bc.out.then_below bz)))
  have BZ := bz
  have S0 : Hid (wz.cell? ⟨w.heap.size + 1, 0, none⟩ = some (.bool s2)) := y0
  have nG : Hid (w.heap.size + 1 ≠ w.heap.size + 1 + 1) := by show w.heap.size + 1 ≠ _; omega
  have R1 := hide (kept_block R0.out BZ.out)
  go_region_held3
    (fun w' => w'.cell? ⟨w.heap.size + 1, 0, none⟩ = some (.bool s2))
    ((repeat (first | with_reducible exact S0.out | with_reducible refine one_set3 ?_ nG.out | with_reducible refine one_keep ?_ bf | with_reducible refine one_keep ?_ be | with_reducible refine one_keep ?_ ((Below.refl _ _).drew))))
    (first
      | (go_at_call 65; refine (subRN _ _ _ (n2 * d1) (n1 * d2) (2 * K) (my.out.below (by repeat (first | with_reducible exact Below.refl _ _ | with_reducible refine Below.drew ?_ | with_reducible refine Below.then_below ?_ (alloc_below _ _)))) (mx.out.below (by repeat (first | with_reducible exact Below.refl _ _ | with_reducible refine Below.drew ?_ | with_reducible refine Below.then_below ?_ (alloc_below _ _)))) ky.out hle2.out (by omega)).mono ?_; rintro e we ⟨⟨ve, rfl, me⟩, be⟩)
      | (go_at_call 52; refine (ratio_calls _ s2 _ _ (n2 * d1 - n1 * d2) (d1 * d2) (2 * K + 1) me (md.out.below (by repeat (first | with_reducible exact Below.refl _ _ | with_reducible refine Below.drew ?_ | with_reducible refine Below.then_below ?_ (alloc_below _ _) | with_reducible refine Below.then_below ?_ be))) hdd.out (sub_NB ky.out) (NB_up kD.out) (by omega) (by omega)).mono ?_; rintro e wf ⟨⟨vf, rfl, mf⟩, bf⟩; obtain ⟨sb, hsb⟩ : ∃ sb : Bool, Hid ((s2 && !decide (n2 * d1 - n1 * d2 = 0)) = sb) := ⟨_, rfl⟩; rw [hsb.out] at mf; obtain ⟨ua, ul, uc, ta, tl, tc, rfl, m1, m2⟩ := mf; have bwf : Below wz.heap.size wz wf := (by repeat (first | with_reducible exact Below.refl _ _ | with_reducible refine Below.drew ?_ | with_reducible refine Below.then_below ?_ (alloc_below _ _) | with_reducible refine Below.then_below ?_ bf | with_reducible refine Below.then_below ?_ be)); have R2 := hide (kept_block R1.out bwf); obtain ⟨q0, q1, q2, f0, f1, f2⟩ := box3 R2.out))
  go_wp2
  refine bodyPost_ret (v := .agg #[.bool sb, .slice ua ul uc, .slice ta tl tc]) (by simp [results, Tryz.results48, go_sem, q0, q1, q2]) rfl ?_
  rw [hsb.out]
  have q := set3 wf (w.heap.size + 1 + 1) (.bool sb) (.slice ua ul uc) (.slice ta tl tc)
  exact ⟨⟨_, rfl, ua, ul, uc, ta, tl, tc, rfl, m1.past R2.out q, m2.past R2.out q⟩, ((B0.out.then_below BZ.out).then_below bwf).then_grown q (by rintro g ⟨⟩; omega)⟩
theorem rplus_calls (w : World) (va vb : Value) (s1 s2 : Bool) (n1 d1 n2 d2 K : Nat) (ha : RR w va s1 n1 d1) (hb : RR w vb s2 n2 d2) (hd1 : 0 < d1) (hd2 : 0 < d2) (k1 : (n1 : Int) < M.NB ^ K) (l1 : (d1 : Int) < M.NB ^ K) (k2 : (n2 : Int) < M.NB ^ K) (l2 : (d2 : Int) < M.NB ^ K) (hK : 2 * K + 1 ≤ 17592186044) (hK1 : 1 ≤ K) :
    Calls Tryz.prog 48 #[va, vb] w fun e w' => (∃ v, e = .returned v ∧ RR w' v ((M.addS s1 (n1 * d2) s2 (n2 * d1)).1 && !decide ((M.addS s1 (n1 * d2) s2 (n2 * d1)).2 = 0)) ((M.addS s1 (n1 * d2) s2 (n2 * d1)).2 / Nat.gcd (M.addS s1 (n1 * d2) s2 (n2 * d1)).2 (d1 * d2)) (d1 * d2 / Nat.gcd (M.addS s1 (n1 * d2) s2 (n2 * d1)).2 (d1 * d2))) ∧ Below w.heap.size w w' := by
  by_cases hs : s1 = s2
  · have e : M.addS s1 (n1 * d2) s2 (n2 * d1) = (s1, n1 * d2 + n2 * d1) := by unfold M.addS; rw [if_pos hs]
    rw [e]
    exact rplus_same w va vb s1 s2 hs n1 d1 n2 d2 K ha hb hd1 hd2 k1 l1 k2 l2 hK hK1
  · by_cases hle : n2 * d1 ≤ n1 * d2
    · have e : M.addS s1 (n1 * d2) s2 (n2 * d1) = (s1, n1 * d2 - n2 * d1) := by unfold M.addS; rw [if_neg hs, if_pos hle]
      rw [e]
      exact rplus_ge w va vb s1 s2 hs n1 d1 n2 d2 K ha hb hd1 hd2 k1 l1 k2 l2 hK hK1 hle
    · have e : M.addS s1 (n1 * d2) s2 (n2 * d1) = (s2, n2 * d1 - n1 * d2) := by unfold M.addS; rw [if_neg hs, if_neg hle]
      rw [e]
      exact rplus_lt w va vb s1 s2 hs n1 d1 n2 d2 K ha hb hd1 hd2 k1 l1 k2 l2 hK hK1 hle

end Go.Proofs.YtlepicdpelkmlaaGreatDoor
/- ==== RefOpp ==== -/
namespace Go.Proofs.YtlepicdpelkmlaaGreatDoor
open Go.RowKit
set_option linter.unusedVariables false
set_option maxRecDepth 100000 in
set_option maxHeartbeats 4000000 in
theorem ropp_calls (w : World) (v : Value) (s : Bool) (n d : Nat) (h : RR w v s n d) :
    Calls Tryz.prog 49 #[v] w fun e w' => (∃ r, e = .returned r ∧ RR w' r (!s && !decide (n = 0)) n d) ∧ Below w.heap.size w w' := by
  obtain ⟨na, nl, nc, da, dl, dc, rfl, h1, h2⟩ := h
  obtain ⟨ao, k, c, e, en, -, -⟩ := h1.form
  cases e
  obtain ⟨X1, Y1, -⟩ := two_new w (.cells #[.bool s, .slice na nl nc, .slice da dl dc] 77) (.cells #[.bool false, .slice none 0 0, .slice none 0 0] 77)
  have B0 := alloc2_below w (.cells #[.bool s, .slice na nl nc, .slice da dl dc] 77) (.cells #[.bool false, .slice none 0 0, .slice none 0 0] 77)
  obtain ⟨W0, hW0⟩ : ∃ W0, (w.alloc (.cells #[.bool s, .slice na nl nc, .slice da dl dc] 77)).alloc (.cells #[.bool false, .slice none 0 0, .slice none 0 0] 77) = W0 := ⟨_, rfl⟩
  rw [hW0] at X1 Y1 B0
  have A1 := hide (h1.below B0)
  have A2 := hide (h2.below B0)
  replace B0 := hide B0
  obtain ⟨x0, x1, x2, -, -, -⟩ := box3 X1
  obtain ⟨y0, y1, y2, f0, f1, f2⟩ := box3 Y1
  replace X1 := hide X1
  replace Y1 := hide Y1
  clear h1 h2
  have fin : Hid (∀ x : Bool, RR (((W0.setCell ⟨w.heap.size + 1, 0, none⟩ (.bool x)).setCell ⟨w.heap.size + 1, 1, none⟩ (.slice na nl nc)).setCell ⟨w.heap.size + 1, 2, none⟩ (.slice da dl dc)) (.agg #[.bool x, .slice na nl nc, .slice da dl dc]) x n d ∧ Below w.heap.size w (((W0.setCell ⟨w.heap.size + 1, 0, none⟩ (.bool x)).setCell ⟨w.heap.size + 1, 1, none⟩ (.slice na nl nc)).setCell ⟨w.heap.size + 1, 2, none⟩ (.slice da dl dc))) := by
    intro x
    have q := set3 W0 (w.heap.size + 1) (.bool x) (.slice na nl nc) (.slice da dl dc)
    exact ⟨⟨na, nl, nc, da, dl, dc, rfl, A1.out.past Y1.out q, A2.out.past Y1.out q⟩, B0.out.then_grown q (by rintro g ⟨⟩; omega)⟩
  cases s with
  | true =>
    clear en
    go_enter Tryz.func49, Tryz.ntmps49
    go_wp2
    refine bodyPost_ret (v := .agg #[.bool false, .slice na nl nc, .slice da dl dc]) (by simp [results, Tryz.results49, go_sem, y0, y1, y2]) rfl ?_
    obtain ⟨u, v⟩ := fin.out false
    exact ⟨⟨_, rfl, u⟩, v⟩
  | false =>
    by_cases hn : n = 0
    · rw [decide_eq_true hn]
      have h0 : nl = 0 := en.2 hn
      subst h0
      clear en hn
      go_enter Tryz.func49, Tryz.ntmps49
      go_wp2
      refine bodyPost_ret (v := .agg #[.bool false, .slice na 0 nc, .slice da dl dc]) (by simp [results, Tryz.results49, go_sem, y0, y1, y2]) rfl ?_
      obtain ⟨u, v⟩ := fin.out false
      exact ⟨⟨_, rfl, u⟩, v⟩
    · rw [decide_eq_false hn]
      have h0 : 0 < nl := Nat.pos_of_ne_zero (fun e => hn (en.1 e))
      have h3 : (0 : Int) < nl := by omega
      clear en hn
      go_enter Tryz.func49, Tryz.ntmps49
      go_wp2
      refine bodyPost_ret (v := .agg #[.bool true, .slice na nl nc, .slice da dl dc]) (by simp [results, Tryz.results49, go_sem, y0, y1, y2]) rfl ?_
      obtain ⟨u, v⟩ := fin.out true
      exact ⟨⟨_, rfl, u⟩, v⟩
end Go.Proofs.YtlepicdpelkmlaaGreatDoor
/- ==== RefLessF ==== -/
namespace Go.Proofs.YtlepicdpelkmlaaGreatDoor
open Go.RowKit
set_option linter.unusedVariables false
set_option maxRecDepth 100000 in
set_option maxHeartbeats 8000000 in
theorem rless_calls (w : World) (va vb : Value) (s1 s2 : Bool) (n1 d1 n2 d2 K : Nat) (ha : RR w va s1 n1 d1) (hb : RR w vb s2 n2 d2) (hd1 : 0 < d1) (hd2 : 0 < d2) (k1 : (n1 : Int) < M.NB ^ K) (l1 : (d1 : Int) < M.NB ^ K) (k2 : (n2 : Int) < M.NB ^ K) (l2 : (d2 : Int) < M.NB ^ K) (hK : 2 * K + 1 ≤ 17592186044) (hK1 : 1 ≤ K) :
    Calls Tryz.prog 31 #[va, vb] w fun e w' => (∃ v, e = .returned v ∧ RR w' v ((M.addS s1 (n1 * d2) (!s2 && !decide (n2 = 0)) (n2 * d1)).1 && !decide ((M.addS s1 (n1 * d2) (!s2 && !decide (n2 = 0)) (n2 * d1)).2 = 0)) ((M.addS s1 (n1 * d2) (!s2 && !decide (n2 = 0)) (n2 * d1)).2 / Nat.gcd (M.addS s1 (n1 * d2) (!s2 && !decide (n2 = 0)) (n2 * d1)).2 (d1 * d2)) (d1 * d2 / Nat.gcd (M.addS s1 (n1 * d2) (!s2 && !decide (n2 = 0)) (n2 * d1)).2 (d1 * d2))) ∧ Below w.heap.size w w' := by
  have ha' := hide ha
  have hb' := hide hb
  obtain ⟨na, nl, nc, da, dl, dc, rfl, a1, a2⟩ := ha
  obtain ⟨pa, pl, pc, ra, rl, rc, rfl, b1, b2⟩ := hb
  replace k1 := hide k1
  replace k2 := hide k2
  replace l1 := hide l1
  replace l2 := hide l2
  replace a1 := hide a1
  replace a2 := hide a2
  replace b1 := hide b1
  replace b2 := hide b2
  have z1 : (w.alloc (.cells #[.bool s1, .slice na nl nc, .slice da dl dc] 77)).heap.size = w.heap.size + 1 := by show (w.heap.push _).size = _; simp
  have z2 : ((w.alloc (.cells #[.bool s1, .slice na nl nc, .slice da dl dc] 77)).alloc (.cells #[.bool s2, .slice pa pl pc, .slice ra rl rc] 77)).heap.size = w.heap.size + 1 + 1 := by show ((w.heap.push _).push _).size = _; simp
  have P0 := kept_block (kept_block (heap_alloc_new w (.cells #[.bool s1, .slice na nl nc, .slice da dl dc] 77)) (alloc_below _ (.cells #[.bool s2, .slice pa pl pc, .slice ra rl rc] 77))) (alloc_below _ (.cells #[.bool false, .slice none 0 0, .slice none 0 0] 77))
  have Q0 := kept_block (heap_alloc_new (w.alloc (.cells #[.bool s1, .slice na nl nc, .slice da dl dc] 77)) (.cells #[.bool s2, .slice pa pl pc, .slice ra rl rc] 77)) (alloc_below _ (.cells #[.bool false, .slice none 0 0, .slice none 0 0] 77))
  have R0 := heap_alloc_new ((w.alloc (.cells #[.bool s1, .slice na nl nc, .slice da dl dc] 77)).alloc (.cells #[.bool s2, .slice pa pl pc, .slice ra rl rc] 77)) (.cells #[.bool false, .slice none 0 0, .slice none 0 0] 77)
  rw [z1] at Q0
  rw [z2] at R0
  have B0 := (alloc2_below w (.cells #[.bool s1, .slice na nl nc, .slice da dl dc] 77) (.cells #[.bool s2, .slice pa pl pc, .slice ra rl rc] 77)).then_below (alloc_below _ (.cells #[.bool false, .slice none 0 0, .slice none 0 0] 77))
  obtain ⟨W0, hW0⟩ : ∃ W0, ((w.alloc (.cells #[.bool s1, .slice na nl nc, .slice da dl dc] 77)).alloc (.cells #[.bool s2, .slice pa pl pc, .slice ra rl rc] 77)).alloc (.cells #[.bool false, .slice none 0 0, .slice none 0 0] 77) = W0 := ⟨_, rfl⟩
  rw [hW0] at P0 Q0 R0 B0
  replace P0 := hide P0
  replace Q0 := hide Q0
  replace R0 := hide R0
  replace B0 := hide B0
  clear z1 z2
  obtain ⟨p0, p1, p2, -, -, -⟩ := box3 P0.out
  obtain ⟨r0, r1, r2, -, -, -⟩ := box3 Q0.out
  have HA1 := hide (a1.out.below B0.out)
  have HA2 := hide (a2.out.below B0.out)
  have HB1 := hide (b1.out.below B0.out)
  have HB2 := hide (b2.out.below B0.out)
  clear a1 a2 b1 b2
  have HA := hide (ha'.out.below B0.out)
  have HB := hide (hb'.out.below B0.out)
  have P1 : Hid (∀ W va vb, RR W va s1 n1 d1 → RR W vb (!s2 && !decide (n2 = 0)) n2 d2 → Calls Tryz.prog 48 #[va, vb] W fun e w' => (∃ v, e = .returned v ∧ RR w' v ((M.addS s1 (n1 * d2) (!s2 && !decide (n2 = 0)) (n2 * d1)).1 && !decide ((M.addS s1 (n1 * d2) (!s2 && !decide (n2 = 0)) (n2 * d1)).2 = 0)) ((M.addS s1 (n1 * d2) (!s2 && !decide (n2 = 0)) (n2 * d1)).2 / Nat.gcd (M.addS s1 (n1 * d2) (!s2 && !decide (n2 = 0)) (n2 * d1)).2 (d1 * d2)) (d1 * d2 / Nat.gcd (M.addS s1 (n1 * d2) (!s2 && !decide (n2 = 0)) (n2 * d1)).2 (d1 * d2))) ∧ Below W.heap.size W w') :=
    fun W va vb h1 h2 => rplus_calls W va vb s1 _ n1 d1 n2 d2 K h1 h2 hd1 hd2 k1.out l1.out k2.out l2.out hK hK1
  generalize ((M.addS s1 (n1 * d2) (!s2 && !decide (n2 = 0)) (n2 * d1)).1 && !decide ((M.addS s1 (n1 * d2) (!s2 && !decide (n2 = 0)) (n2 * d1)).2 = 0)) = SG at *
  generalize (M.addS s1 (n1 * d2) (!s2 && !decide (n2 = 0)) (n2 * d1)).2 / Nat.gcd (M.addS s1 (n1 * d2) (!s2 && !decide (n2 = 0)) (n2 * d1)).2 (d1 * d2) = NN at *
  generalize d1 * d2 / Nat.gcd (M.addS s1 (n1 * d2) (!s2 && !decide (n2 = 0)) (n2 * d1)).2 (d1 * d2) = DD at *
  have S0 := hide (And.intro p0 (And.intro p1 (And.intro p2 (And.intro r0 (And.intro r1 (And.intro r2 B0.out))))))
  clear p0 p1 p2 r0 r1 r2 ha' hb' HA1 HA2 HB1 HB2
  have n1' : w.heap.size ≠ w.heap.size + 1 + 1 := by omega
  have n2' : w.heap.size + 1 ≠ w.heap.size + 1 + 1 := by omega
  have n5 : w.heap.size ≤ w.heap.size + 1 + 1 := by omega
  go_enter Tryz.func31, Tryz.ntmps31
  go_upto_region 1 with fail
  go_region_held3
    (fun w' => w'.cell? ⟨w.heap.size, 0, none⟩ = some (.bool s1) ∧ w'.cell? ⟨w.heap.size, 1, none⟩ = some (.slice na nl nc) ∧ w'.cell? ⟨w.heap.size, 2, none⟩ = some (.slice da dl dc) ∧ w'.cell? ⟨w.heap.size + 1, 0, none⟩ = some (.bool s2) ∧ w'.cell? ⟨w.heap.size + 1, 1, none⟩ = some (.slice pa pl pc) ∧ w'.cell? ⟨w.heap.size + 1, 2, none⟩ = some (.slice ra rl rc) ∧ Below w.heap.size w w')
    ((repeat (first
      | with_reducible exact S0.out
      | with_reducible refine cells6_set3 ?_ n1' n2' n5
      | with_reducible refine cells6_kept ?_ bb
      | with_reducible refine cells6_kept ?_ ba
      | with_reducible refine cells6_kept ?_ ((Below.refl _ _).drew))))
    (first
      | (go_at_call 49; refine (ropp_calls _ _ s2 n2 d2 (HB.out.below (by repeat (first | with_reducible exact Below.refl _ _ | with_reducible refine Below.drew ?_ | with_reducible refine Below.then_below ?_ (alloc_below _ _))))).mono ?_; rintro e wa ⟨⟨va, rfl, ma⟩, ba⟩)
      | (go_at_call 48; refine (P1.out _ _ _ (HA.out.below (by repeat (first | with_reducible exact Below.refl _ _ | with_reducible refine Below.drew ?_ | with_reducible refine Below.then_below ?_ (alloc_below _ _) | with_reducible refine Below.then_below ?_ ba))) ma).mono ?_; rintro e wb ⟨⟨vb, rfl, mbb⟩, bb⟩; obtain ⟨ua, ul, uc, ta, tl, tc, rfl, m1, m2⟩ := mbb; have bwf : Below W0.heap.size W0 wb := (by repeat (first | with_reducible exact Below.refl _ _ | with_reducible refine Below.drew ?_ | with_reducible refine Below.then_below ?_ (alloc_below _ _) | with_reducible refine Below.then_below ?_ bb | with_reducible refine Below.then_below ?_ ba)); have R2 := hide (kept_block R0.out bwf); obtain ⟨q0, q1, q2, f0, f1, f2⟩ := box3 R2.out))
  go_wp2
  refine bodyPost_ret (v := .agg #[.bool SG, .slice ua ul uc, .slice ta tl tc]) (by simp [results, Tryz.results31, go_sem, q0, q1, q2]) rfl ?_
  have q := set3 wb (w.heap.size + 1 + 1) (.bool SG) (.slice ua ul uc) (.slice ta tl tc)
  exact ⟨⟨_, rfl, ua, ul, uc, ta, tl, tc, rfl, m1.past R2.out q, m2.past R2.out q⟩, (B0.out.then_below bwf).then_grown q (by rintro g ⟨⟩; exact n5)⟩
end Go.Proofs.YtlepicdpelkmlaaGreatDoor
