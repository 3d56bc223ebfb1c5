/- Laid together of: MoveDown, DivLong, Cmp, AddDigits, SubDigits, MulDigits, MulBig. -/
import Derived.Test.YtlepicdpelkmlaaGreatDoorAll2
import Derived.Test.YtlepicdpelkmlaaGreatDoorAll1
import Derived.Deep.RegionWith
/- ==== MoveDown ==== -/
namespace Go.Proofs.YtlepicdpelkmlaaGreatDoor
open Go.RowKit
set_option linter.unusedVariables false

theorem down_step {y la : List Int} {k : Nat} {d u x : Int} {s : Nat} (hs : s ≤ 64) (hk : k + 1 < la.length) (hl : k + 1 < y.length) (hd : la.getD (k + 1) 0 = d) (hu : y.getD k 0 = u) (h0 : y.getD (k + 1) 0 = 0) (hx : x + M.BB * (d / 2 ^ s) = d * 2 ^ (64 - s))
    (hv : M.val M.BB y = M.val M.BB (la.take (k + 1)) / 2 ^ s) : M.val M.BB ((y.set (k + 1) (d / 2 ^ s)).set k (x + u)) = M.val M.BB (la.take (k + 1 + 1)) / 2 ^ s := by
  rw [M.val_set _ _ _ (by simp; omega), M.val_set _ _ _ hl, M.val_take_succ _ _ hk, hd, h0, set_getD_ne _ (by omega), hu, hv]
  have P := pow_split s hs
  have e : M.BB ^ (k + 1) * d = 2 ^ s * (M.BB ^ k * (d * 2 ^ (64 - s))) := by
    rw [Int.pow_succ, show M.BB = 2 ^ (64 - s) * 2 ^ s from P.symm]
    grind
  rw [e, Int.add_mul_ediv_left _ _ (Int.ne_of_gt (two_pos s)), ← hx, Int.pow_succ]
  grind
theorem or_zero (x : Int) (h0 : 0 ≤ x) (h1 : x < M.BB) : bits BinOp.or IntKind.u64 0 x = x := by
  rw [M.BB_eq] at h1
  rw [u64_or 0 x (by decide) (by decide) h0 h1]
  simp
  omega

set_option maxRecDepth 100000 in
set_option maxHeartbeats 1600000 in
theorem moveDown_calls (w : World) (va : Value) (la : List Int) (s : Nat) (ra : Row .u64 w va la) (da : M.Dig M.BB la) (na : la.length ≤ 35184372088832) (hs : s < 64) :
    Calls Tryz.prog 162 #[va, .int .i64 s] w fun e w' => (∃ v l, e = .returned v ∧ Row .u64 w' v l ∧ Fresh w.heap.size v l ∧ M.Dig M.BB l ∧ M.Trm l ∧ M.val M.BB l = M.val M.BB la / 2 ^ s) ∧ Below w.heap.size w w' := by
  obtain ⟨aa, ca, rfl, a1, a2, a3, a4⟩ := ra
  go_enter Tryz.func162, Tryz.ntmps162
  go_wp2_with (at_make; refine wpList_make_row _ rfl _ _ _ rfl .u64 _ 8 sliceU64 infoU64 .i64 .i64 _ _ la.length rfl rfl (by omega) (by omega) (by decide) (by omega) ?_; intro w1 z1 hz1 ho1 hg1 hs1)
  have l1 : z1.length = la.length := by rw [hz1.out]; simp
  have d1 : M.Dig M.BB z1 := by rw [hz1.out]; exact M.Dig.replicate M.BB_pos _
  have v1 : M.val M.BB z1 = 0 := by rw [hz1.out]; exact M.val_replicate _
  have g1 : ∀ j, z1.getD j 0 = 0 := by
    intro j
    rw [hz1.out, List.getD_eq_getElem?_getD]
    simp [List.getElem?_replicate]
    split <;> rfl
  go_loopw [13] (fun i wr => ∃ (k : Nat) (y : List Int), k ≤ la.length ∧ i = .int .i64 k ∧ Own .u64 87 wr w.heap.size y ∧ M.Dig M.BB y ∧ y.length = la.length ∧
      Hid (∀ j, k ≤ j → y.getD j 0 = 0) ∧ Hid (∀ j, j + 1 = k → y.getD j 0 < 2 ^ (64 - s)) ∧ Hid (M.val M.BB y = M.val M.BB (la.take k) / 2 ^ s) ∧ Below w.heap.size w wr) (fun i _ => la.length - (intOf i).toNat)
  case atStart => exact ⟨0, z1, Nat.zero_le _, rfl, ho1, d1, l1, fun j _ => g1 j, fun j hj => by omega, by show _ = _; rw [v1]; simp [M.val], grown_below hg1⟩
  case round =>
    clear l1 d1 v1 g1 ho1 hg1 hs1 hz1
    obtain ⟨k, y, hk, rfl, hy, hyd, hyl, hh, hu, hv, hg⟩ := hrel
    by_cases hlt : k < la.length
    · have hne : la ≠ [] := by rintro rfl; simp at hlt
      obtain ⟨b, oa, rfl, hca⟩ := a4 hne
      have hcell : wr.cell? ⟨b, oa + k, none⟩ = some (.int .u64 (la.getD k 0)) := (hg.cell (p := ⟨b, oa + k, none⟩) (World.block_lt_of_cell? w _ (hca k hlt))).trans (hca k hlt)
      have hx := da.getD M.BB_pos k
      have hcy := hy.cell k (by omega)
      rw [hh.out k (Nat.le_refl _)] at hcy
      have hfy := hy.frozen k
      have p0 := two_pos s
      have p1 := two_pos (64 - s)
      have t0 : 0 ≤ la.getD k 0 / 2 ^ s := Int.ediv_nonneg hx.1 (Int.le_of_lt p0)
      have t1 : la.getD k 0 / 2 ^ s < M.BB := Int.lt_of_le_of_lt (Int.ediv_le_self _ hx.1) hx.2
      have t2 : Hid (la.getD k 0 / 2 ^ s < 2 ^ (64 - s)) := by
        show _ < _
        have P := pow_split s (by omega)
        rw [Int.ediv_lt_iff_lt_mul p0, P]
        exact hx.2
      have hor := or_zero _ t0 t1
      cases k with
      | zero =>
        generalize hdx : la.getD 0 0 = d at *
        have Hx := hide hdx
        have Hl := hide hyl
        clear hdx hyl a4 hca
        have HT := hide (⟨t0, t1⟩ : 0 ≤ d / 2 ^ s ∧ d / 2 ^ s < M.BB)
        rw [Nat.add_zero] at hcell
        generalize hq : d / 2 ^ s = q at *
        have HQ := hide hq
        go_wp2
        go_region
        all_goals (try go_wp2)
        go_roundw
        case rel =>
          have hlen : 0 < y.length := by have := Hl.out; omega
          refine ⟨1, y.set 0 q, by omega, by go_num, hy.set 0 q, hyd.set 0 HT.out.1 HT.out.2, by simpa using Hl.out, ?_, ?_, ?_, ?_⟩
          · intro j hj
            rw [set_getD_ne _ (by omega)]
            exact hh.out j (by omega)
          · intro j hj
            obtain rfl : j = 0 := by omega
            have : (y.set 0 q).getD 0 0 = q := by simp [List.getD_eq_getElem?_getD, hlen]
            rw [this]
            exact t2.out
          · show _ = _
            rw [M.val_set _ _ _ hlen, hh.out 0 (Nat.le_refl _), hv.out, M.val_take_succ _ _ hlt, Hx.out, ← HQ.out]
            simp [M.val]
          · exact (hg.then_grown (grown_set _ _ _ _) (by simp)).drew
        case measure => simp [intOf]; omega
      | succ k =>
        have UD := up_digit (la.getD (k + 1) 0) (y.getD k 0) (64 - s) (by omega) hx ⟨(hyd.getD M.BB_pos k).1, hu.out k rfl⟩
        rw [show 64 - (64 - s) = s by omega] at UD
        have hcy1 := hy.cell k (by omega)
        have hfy1 := hy.frozen k
        generalize hdx : la.getD (k + 1) 0 = d at *
        generalize hux : y.getD k 0 = u at *
        obtain ⟨e1, _, _, x0, x1, e2, _⟩ := UD
        have E2 := hide e2
        have Hx := hide hdx
        have Hu := hide hux
        have Hl := hide hyl
        clear hdx hux hyl a4 hca e2
        generalize hW : IntKind.u64.wrap (d * 2 ^ (64 - s)) = x at *
        generalize hq : d / 2 ^ s = q at *
        have HQ := hide hq
        go_wp2
        go_region
        all_goals (try go_wp2)
        go_region
        all_goals (try go_wp2)
        go_roundw
        case rel =>
          have hlen : k + 1 < y.length := by have := Hl.out; omega
          refine ⟨k + 1 + 1, (y.set (k + 1) q).set k (x + u), by omega, by go_num, (hy.set (k + 1) q).set k (x + u), (hyd.set (k + 1) t0 t1).set k x0 x1, by simpa using Hl.out, ?_, ?_, ?_, ?_⟩
          · intro j hj
            rw [set_getD_ne _ (by omega), set_getD_ne _ (by omega)]
            exact hh.out j (by omega)
          · intro j hj
            obtain rfl : j = k + 1 := by omega
            have : ((y.set (k + 1) q).set k (x + u)).getD (k + 1) 0 = q := by
              rw [set_getD_ne _ (by omega)]
              simp [List.getD_eq_getElem?_getD, hlen]
            rw [this]
            exact t2.out
          · show _ = _
            have E := E2.out
            rw [← HQ.out] at E ⊢
            exact down_step (by omega) hlt hlen Hx.out Hu.out (hh.out _ (Nat.le_refl _)) E hv.out
          · exact ((hg.then_grown (grown_set _ _ _ _) (by simp)).then_grown (grown_set _ _ _ _) (by simp)).drew.drew
        case measure => simp [intOf]; omega
    · have hk' : k = la.length := by omega
      subst hk'
      rw [List.take_length] at hv
      have r3 : Row .u64 wr (.slice (some ⟨w.heap.size, 0, none⟩) la.length la.length) y := by
        have := hy.all la.length (by omega) (by omega)
        rwa [hyl] at this
      have HY := hide hyl
      clear a4 hyl
      go_wp2_with (go_at_call 120; refine (trim_calls _ _ y r3).mono ?_; rintro e w' ⟨⟨u, rfl, ru, fu⟩, rfl⟩)
      go_ret
      exact ⟨⟨u, M.trimmed y, rfl, ru, trim_fresh (own_fresh _ _ _) fu, M.trimmed_dig hyd, M.trimmed_trm _, by rw [M.trimmed_val]; exact hv.out⟩, hg⟩
end Go.Proofs.YtlepicdpelkmlaaGreatDoor
/- ==== DivLong ==== -/
namespace Go.Proofs.YtlepicdpelkmlaaGreatDoor
open Go.RowKit
set_option linter.unusedVariables false

/-- The divisor moved up: its number, and its top digit is not 0. -/
theorem up_div {zb lb : List Int} {n s : Nat} (db : M.Dig M.BB lb) (tb : M.Trm lb) (hn : lb.length = n + 1) (dz : M.Dig M.BB zb) (lz1 : zb.length = n + 2) (vz : M.val M.BB zb = M.val M.BB lb * 2 ^ s) (hlt : M.val M.BB lb * 2 ^ s < M.BB ^ (n + 1)) :
    M.val M.BB (zb.take (n + 1)) = M.val M.BB lb * 2 ^ s ∧ 0 < (zb.take (n + 1)).getD n 0 ∧ 0 < M.val M.BB lb * 2 ^ s ∧ M.BB ^ n ≤ M.val M.BB lb * 2 ^ s := by
  have h0 := above_zero dz (n + 1) (by omega) (by rw [vz]; exact hlt)
  have e1 := M.val_take_drop (B := M.BB) zb (n + 1) (by omega)
  rw [h0, Int.mul_zero, Int.add_zero, vz] at e1
  have h1 := tb.val_ge M.BB_pos db (by rintro rfl; simp at hn)
  rw [hn, Nat.add_sub_cancel] at h1
  have p0 := two_pos s
  have h2 : M.BB ^ n ≤ M.val M.BB lb * 2 ^ s := by
    have := Int.mul_le_mul_of_nonneg_left (show (1 : Int) ≤ 2 ^ s from p0) (show 0 ≤ M.val M.BB lb from M.val_nonneg M.BB_pos db)
    omega
  have h3 := M.pow_pos M.BB_pos n
  refine ⟨e1.symm, ?_, by omega, h2⟩
  have g := (dz.take (n + 1)).getD M.BB_pos n
  rcases Int.lt_or_le 0 ((zb.take (n + 1)).getD n 0) with h | h
  · exact h
  · have e2 := M.val_take_drop (B := M.BB) (zb.take (n + 1)) n (by simp; omega)
    rw [drop_val _ _ (by simp; omega), List.drop_eq_nil_of_le (by simp; omega)] at e2
    have h4 := M.val_lt M.BB_pos ((dz.take (n + 1)).take n)
    rw [List.length_take, List.length_take, Nat.min_eq_left (by omega)] at h4
    have h5 : (zb.take (n + 1)).getD n 0 = 0 := by omega
    rw [h5] at e2
    simp only [M.val, Int.mul_zero, Int.add_zero] at e2
    omega

theorem back_eq {V V' Y P B d D c' : Int} (h1 : V - P * 1 = Y - B * (d * D)) (h2 : V' + P * c' = V + B * D) : V' - P * (1 - c') = Y - B * ((d - 1) * D) := by grind

set_option maxRecDepth 100000 in
set_option maxHeartbeats 2000000 in
theorem divLong_calls (w : World) (ba oa ca bb ob cb n m : Nat) (la lb : List Int) (ra : Row .u64 w (.slice (some ⟨ba, oa, none⟩) la.length ca) la) (rb : Row .u64 w (.slice (some ⟨bb, ob, none⟩) lb.length cb) lb)
    (da : M.Dig M.BB la) (db : M.Dig M.BB lb) (tb : M.Trm lb) (hn : lb.length = n + 1) (hm : la.length = n + 1 + m) (na : la.length ≤ 17592186044416) :
    Calls Tryz.prog 140 #[.slice (some ⟨ba, oa, none⟩) la.length ca, .slice (some ⟨bb, ob, none⟩) lb.length cb] w fun e w' =>
      (∃ vq vr lq lr, e = .returned (.tuple #[vq, vr]) ∧ Row .u64 w' vq lq ∧ Row .u64 w' vr lr ∧ Fresh w.heap.size vq lq ∧ Fresh w.heap.size vr lr ∧ M.Dig M.BB lq ∧ M.Trm lq ∧ M.Dig M.BB lr ∧ M.Trm lr ∧ M.val M.BB lq = M.val M.BB la / M.val M.BB lb ∧ M.val M.BB lr = M.val M.BB la % M.val M.BB lb) ∧ Below w.heap.size w w' := by
  have ra' := ra
  have rb' := rb
  rw [hm] at ra
  rw [hn] at rb
  rw [hm] at ra'
  rw [hn] at rb'
  rw [hm, hn]
  obtain ⟨_, _, e, c1, c2, _, c4⟩ := rb
  simp at e
  obtain ⟨rfl, h9, rfl⟩ := e
  clear h9
  obtain ⟨_, _, e, hcb⟩ := c4 (by rintro rfl; simp at hn)
  simp at e
  obtain ⟨rfl, rfl⟩ := e
  have k1 := hcb n (by omega)
  have g1 := db.getD M.BB_pos n
  have top0 : 0 < lb.getD n 0 := by
    have h1 := tb (by rintro rfl; simp at hn)
    rw [List.getLast_eq_getElem] at h1
    have h2 : lb.getD n 0 ≠ 0 := by
      rw [List.getD_eq_getElem?_getD, List.getElem?_eq_getElem (by omega), Option.getD_some]
      intro h
      exact h1 (by simpa [hn] using h)
    omega
  have g2 : lb.getD n 0 ≤ 18446744073709551615 := by have := g1.2; rw [M.BB_eq] at this; omega
  obtain ⟨f1, f2, f3⟩ := lz_facts (lb.getD n 0) top0 g2
  have LZ := hide (lz_calls (lb.getD n 0) top0 g2)
  have hlt : M.val M.BB lb * 2 ^ lz (lb.getD n 0) < M.BB ^ (n + 1) := by
    have e1 := M.val_take_drop (B := M.BB) lb n (by omega)
    rw [drop_val _ _ (by omega), List.drop_eq_nil_of_le (by omega)] at e1
    have h1 := M.val_lt M.BB_pos (db.take n)
    rw [List.length_take, Nat.min_eq_left (by omega)] at h1
    have h2 : M.val M.BB lb < M.BB ^ n * (lb.getD n 0 + 1) := by
      rw [e1]
      simp only [M.val]
      grind
    have P := pow_split (lz (lb.getD n 0)) (by omega)
    have p0 := two_pos (lz (lb.getD n 0))
    have h3 : lb.getD n 0 < 2 ^ (64 - lz (lb.getD n 0)) := by
      have : lb.getD n 0 * 2 ^ lz (lb.getD n 0) < 2 ^ (64 - lz (lb.getD n 0)) * 2 ^ lz (lb.getD n 0) := by rw [P]; omega
      exact Int.lt_of_mul_lt_mul_right this (Int.le_of_lt p0)
    have h4 := Int.mul_le_mul_of_nonneg_right (show lb.getD n 0 + 1 ≤ 2 ^ (64 - lz (lb.getD n 0)) by omega) (Int.le_of_lt p0)
    rw [P] at h4
    have h5 := Int.mul_lt_mul_of_pos_right h2 p0
    have h6 : M.BB ^ n * ((lb.getD n 0 + 1) * 2 ^ lz (lb.getD n 0)) ≤ M.BB ^ n * 18446744073709551616 := Int.mul_le_mul_of_nonneg_left h4 (Int.le_of_lt (M.pow_pos M.BB_pos n))
    rw [Int.pow_succ, ← Int.mul_assoc] at *
    rw [show M.BB ^ n * M.BB = M.BB ^ n * 18446744073709551616 from by rw [M.BB_eq]]
    omega
  generalize hs : lz (lb.getD n 0) = s at *
  generalize htp : lb.getD n 0 = tp at *
  have HLT := hide hlt
  clear hcb c4 hlt htp hs
  have HN := hide hn
  have HM := hide hm
  have na' : n + 1 + m ≤ 17592186044416 := by omega
  have CB := moveUp_calls w _ lb s rb' db (by omega) f1
  rw [hn] at CB
  replace CB := hide CB
  clear hn hm
  go_enter Tryz.func140, Tryz.ntmps140
  go_wp2_with (first
    | (go_at_call 156; refine (unhide LZ _).mono ?_; rintro e w' ⟨rfl, hw'⟩; rw [hw']; clear hw' w')
    | (go_at_call 158; fail))
  refine CB.out.mono ?_
  clear CB
  rintro e w1 ⟨⟨zb, rfl, ho1, dz1, lz1, vz1⟩, b1⟩
  obtain ⟨ud1, ud2, ud3, ud4⟩ := up_div db tb HN.out dz1 (by omega) vz1 HLT.out
  have hG1 : w.heap.size < w1.heap.size := ho1.lt
  have CA := moveUp_calls w1 _ la s (HM.out ▸ (ra'.below b1)) da na f1
  rw [HM.out] at CA
  replace CA := hide CA
  have LZB := hide lz1
  replace vz1 := hide vz1
  clear lz1
  go_wp2_with (first
    | (go_at_call 158; refine CA.out.mono ?_; rintro e w2 ⟨⟨zr, rfl, ho2, dz2, lz2, vz2⟩, b2⟩; replace lz2 := hide lz2; replace vz2 := hide vz2)
    | (at_make; refine wpList_make_row _ rfl _ _ _ rfl .u64 _ 8 sliceU64 infoU64 .i64 .i64 _ _ (m + 1) rfl rfl (by omega) (by omega) (by decide) (by omega) ?_; intro w3 zq hz3 ho3 hg3 hs3))
  have hG2 : w1.heap.size < w2.heap.size := ho2.lt
  have b3 : Below w.heap.size w w3 := (b1.then_below b2).then_below (grown_below hg3)
  have l3 : zq.length = m + 1 := by rw [hz3.out]; simp
  have d3 : M.Dig M.BB zq := by rw [hz3.out]; exact M.Dig.replicate M.BB_pos _
  have o1 := (ho1.below b2).below (grown_below hg3)
  have o2 := ho2.below (grown_below hg3)
  obtain ⟨D, hD⟩ : ∃ D, M.val M.BB lb * 2 ^ s = D := ⟨_, rfl⟩
  rw [hD] at ud1 ud3 ud4
  have HD := hide hD
  have HLT2 := HLT.out
  rw [hD] at HLT2
  replace HLT2 := hide HLT2
  have start : M.val M.BB zr < D * M.BB ^ (m + 1) := by
    rw [vz2.out, ← hD]
    have h1 := M.val_lt M.BB_pos da
    have h2 := tb.val_ge M.BB_pos db (by intro h; have := HN.out; rw [h] at this; simp at this)
    rw [HN.out, Nat.add_sub_cancel] at h2
    rw [HM.out, show n + 1 + m = n + (m + 1) by omega, Int.pow_add] at h1
    have h3 := Int.mul_le_mul_of_nonneg_right h2 (Int.le_of_lt (M.pow_pos M.BB_pos (m + 1)))
    have h4 := Int.mul_lt_mul_of_pos_right (show M.val M.BB la < M.val M.BB lb * M.BB ^ (m + 1) by omega) (two_pos s)
    have e : M.val M.BB lb * 2 ^ s * M.BB ^ (m + 1) = M.val M.BB lb * M.BB ^ (m + 1) * 2 ^ s := by grind
    rw [e]
    exact h4
  replace ud1 := hide ud1
  replace start := hide start
  have l2' := lz2.out
  clear hD HLT CA hg3 hz3 hs3 ho1 ho2
  go_loopw [10, 12, 13] (fun i dv bv wr => ∃ (k : Nat) (y q : List Int), k ≤ m + 1 ∧ i = .int .i64 ((k : Int) - 1) ∧ Own .u64 87 wr w.heap.size zb ∧ Own .u64 87 wr w1.heap.size y ∧ Own .u64 87 wr w2.heap.size q ∧ M.Dig M.BB y ∧ M.Dig M.BB q ∧ y.length = n + 1 + m + 1 ∧ q.length = m + 1 ∧
      Hid (M.val M.BB zr = M.val M.BB y + D * (M.BB ^ k * M.val M.BB (q.drop k))) ∧ Hid (M.val M.BB y < D * M.BB ^ k) ∧ Below w.heap.size w wr) (fun i _ _ _ => (intOf i + 1).toNat)
  case atStart => exact ⟨m + 1, zr, zq, Nat.le_refl _, by go_num, o1, o2, ho3, dz2, d3, lz2.out, l3, by show _ = _; rw [← l3, List.drop_length]; simp [M.val], start, b3⟩
  case round =>
    clear o1 o2 ho3 d3 l3 b3 start l2'
    obtain ⟨k, y, q, hk, rfl, o1, o2, o3, dy, dq, ly, lq, hv, hv2, hg⟩ := hrel
    by_cases h0 : 0 < k
    · obtain ⟨k, rfl⟩ : ∃ j, k = j + 1 := ⟨k - 1, by omega⟩
      rw [show ((k + 1 : Nat) : Int) - 1 = (k : Int) from by omega]
      replace ly := hide ly
      replace lq := hide lq
      have ek : k + (n + 1) + 1 - k = n + 2 := by omega
      have tl : (zb.take (n + 1)).length = n + 1 := by rw [List.length_take, LZB.out]; omega
      have rby : Row .u64 wr (.slice (some ⟨w.heap.size, 0, none⟩) (n + 1) (n + 1 + 1)) (zb.take (n + 1)) := by
        have := o1.row 0 (n + 1) (n + 1 + 1) (by rw [LZB.out]; omega) (by omega) (by omega)
        simpa using this
      have rpt := o2.row k (n + 2) (n + 1 + m + 1 - k) (by rw [ly.out]; omega) (by omega) (by omega)
      have hyk : M.val M.BB y < M.BB ^ (k + (n + 2)) := by
        have h1 := hv2.out
        have h2 := Int.mul_lt_mul_of_pos_right HLT2.out (M.pow_pos M.BB_pos (k + 1))
        rw [← Int.pow_add, show n + 1 + (k + 1) = k + (n + 2) by omega] at h2
        omega
      have az := above_zero dy (k + (n + 2)) (by rw [ly.out]; omega) hyk
      obtain ⟨wy1, wy2, wy3⟩ := win (z := y) (r := y) rfl k (n + 2) (by rw [ly.out]; omega) dy (fun _ _ => rfl) az
      have hW : M.val M.BB ((y.drop k).take (n + 2)) < M.BB * D := by
        have h1 := hv2.out
        have h2 := M.val_nonneg M.BB_pos (dy.take k)
        have h3 : M.BB ^ k * M.val M.BB ((y.drop k).take (n + 2)) < M.BB ^ k * (M.BB * D) := by
          rw [Int.pow_succ] at h1
          have e : M.BB ^ k * (M.BB * D) = D * (M.BB ^ k * M.BB) := by grind
          rw [e]
          omega
        exact Int.lt_of_mul_lt_mul_left h3 (Int.le_of_lt (M.pow_pos M.BB_pos k))
      have CG := guessDigit_calls wr w1.heap.size k (n + 1 + m + 1 - k) w.heap.size 0 (n + 1 + 1) n _ _ rpt rby ((dy.drop k).take _) (dz1.take _) ud2 (by rw [ud1.out]; exact hW)
      rw [ud1.out] at CG
      obtain ⟨Wr, hWr⟩ : ∃ Wr, M.val M.BB ((y.drop k).take (n + 2)) = Wr := ⟨_, rfl⟩
      rw [hWr] at CG wy1 wy2
      have qn : 0 ≤ Wr / D := Int.ediv_nonneg wy2 (Int.le_of_lt ud3)
      replace CG := hide CG
      replace wy1 := hide wy1
      replace tl := hide tl
      clear hWr hyk hW rpt
      go_wp2_with (first
        | (go_at_call 159; refine CG.out.mono ?_; rintro e w4 ⟨q0, rfl, q1, q2, q3, nd, hw4⟩; replace hw4 := hide hw4; clear CG)
        | (go_at_call 160; fail))
      have e4 : w4 = wr.drewN nd := hw4.out
      have p1 : Own .u64 87 w4 w.heap.size zb := by rw [e4]; exact o1
      have p2 : Own .u64 87 w4 w1.heap.size y := by rw [e4]; exact o2
      have p3 : Own .u64 87 w4 w2.heap.size q := by rw [e4]; exact o3
      have pg : Below w.heap.size w w4 := by rw [e4]; exact ⟨hg.os, hg.tape, hg.output, hg.size, hg.block⟩
      have rby4 : Row .u64 w4 (.slice (some ⟨w.heap.size, 0, none⟩) (n + 1) (n + 1 + 1)) (zb.take (n + 1)) := by rw [e4]; exact rby
      clear e4 hw4 o1 o2 o3 hg rby
      have CS := subProduct_calls w4 w1.heap.size k (n + 2) (n + 1 + m + 1 - k) y _ _ q0 p2 dy rby4 (dz1.take _) (by rw [tl.out]) (by rw [ly.out]; omega) (by intro _ a _ _ e; simp at e; rw [← e.1]; show w.heap.size ≠ w1.heap.size; omega) ⟨q1, by rw [M.BB_eq]; omega⟩
      rw [ud1.out] at CS
      refine CS.mono ?_
      clear CS
      rintro e w5 ⟨c, z, rfl, c0, c1, s1, s2, s3, s4, s5, s6⟩
      go_wp2_with fail
      go_loopw [12, 13] (fun dv bv wi => ∃ (d c : Int) (z : List Int), dv = .int .u64 d ∧ bv = .int .u64 c ∧ 0 ≤ d ∧ d ≤ 18446744073709551615 ∧ 0 ≤ c ∧ c ≤ 1 ∧ Own .u64 87 wi w.heap.size zb ∧ Own .u64 87 wi w1.heap.size z ∧ Own .u64 87 wi w2.heap.size q ∧ M.Dig M.BB z ∧ Hid (z.length = y.length) ∧
          Hid (∀ j, j < k ∨ k + (n + 2) ≤ j → z.getD j 0 = y.getD j 0) ∧ Hid (M.val M.BB z - M.BB ^ (k + (n + 2)) * c = M.val M.BB y - M.BB ^ k * (d * D)) ∧ Wr / D ≤ d ∧ Below w.heap.size w wi) (fun dv _ _ => (intOf dv).toNat)
      case atStart =>
        refine ⟨q0, c, z, rfl, rfl, q1, q2, c0, c1, p1.kept s6 (by simp; omega), s1, p3.kept s6 (by simp; omega), s2, s3, s4, ?_, q3, pg.then_grown s6 (by rintro g ⟨⟩; omega)⟩
        show _ = _
        rw [s5]
        omega
      case round =>
        clear c0 c1 s1 s2 s3 s4 s5 s6 p1 p2 p3 pg rby4 q1 q2 q3
        obtain ⟨d, c, z, rfl, rfl, d0, d1, c0, c1, p1, p2, p3, dz, lz, ag, vz, dq', pg⟩ := hrel
        obtain ⟨wz1, wz2, wz3⟩ := win (z := z) (r := y) lz.out k (n + 2) (by rw [ly.out]; omega) dz ag.out az
        have IF := inner_facts ud3 wz1 wy1.out vz.out wz2 wz3 dq'
        by_cases hc : c = 0
        · subst hc
          obtain ⟨i1, i2⟩ := IF.1 rfl
          rw [i2] at wz1
          obtain ⟨t1, t2⟩ := outer_step (y := q) (Q := d) (by rw [lq.out]; omega) ud3 hv.out wy1.out (by have := M.val_lt M.BB_pos (dy.take k); rw [List.length_take, Nat.min_eq_left (by rw [ly.out]; omega)] at this; exact this) i1 wz1
          have hcq := p3.cell k (by rw [lq.out]; omega)
          have hfq := p3.frozen k
          replace t1 := hide t1
          replace t2 := hide t2
          clear IF wz1 wz2 wz3 i1 i2 hv hv2 vz ag az wy1
          go_wp2
          go_roundw
          case rel =>
            refine ⟨k, z, q.set k d, by omega, rfl, (p1.kept (grown_set _ _ _ _) (by simp; omega)), (p2.kept (grown_set _ _ _ _) (by simp; omega)), p3.set _ _, dz, dq.set _ d0 (by rw [M.BB_eq]; omega), by rw [lz.out, ly.out], by simpa using lq.out, t1, t2, pg.then_grown (grown_set _ _ _ _) (by rintro g ⟨⟩; omega)⟩
          case measure => simp [intOf]
        · have hc' : c = 1 := by omega
          subst hc'
          have i1 := IF.2 rfl
          have d2 : 1 ≤ d := by omega
          have rby : Row .u64 wr (.slice (some ⟨w.heap.size, 0, none⟩) (n + 1) (n + 1 + 1)) (zb.take (n + 1)) := by
            have := p1.row 0 (n + 1) (n + 1 + 1) (by rw [LZB.out]; omega) (by omega) (by omega)
            simpa using this
          have CB := addBack_calls wr w1.heap.size k (n + 2) (n + 1 + m + 1 - k) z _ _ p2 dz rby (dz1.take _) (by rw [tl.out]) (by rw [lz.out, ly.out]; omega) (by intro _ a _ _ e; simp at e; rw [← e.1]; show w.heap.size ≠ w1.heap.size; omega)
          rw [ud1.out] at CB
          replace CB := hide CB
          clear IF wz1 wz2 wz3
          go_wp2_with (go_at_call 161; refine CB.out.mono ?_; rintro e w7 ⟨c', z', rfl, a0, a1, a2, a3, a4, a5, a6, a7⟩; replace a4 := hide a4; replace a6 := hide a6; replace a5 := hide a5)
          go_roundw
          case rel =>
            refine ⟨d - 1, 1 - c', z', rfl, rfl, by omega, by omega, by omega, by omega, p1.kept a7 (by simp; omega), a2, p3.kept a7 (by simp; omega), a3, a4.out.trans lz.out, ?_, ?_, i1, pg.then_grown a7 (by rintro g ⟨⟩; omega)⟩
            · intro j hj
              rw [a5.out j hj]
              exact ag.out j hj
            · show _ = _
              have h1 := vz.out
              have h2 := a6.out
              exact back_eq h1 h2
          case measure => simp [intOf]; omega
    · have hk0 : k = 0 := by omega
      subst hk0
      have h1 := hv.out
      have h2 := hv2.out
      simp only [Int.pow_zero, Int.one_mul, Int.mul_one, List.drop_zero] at h1 h2
      obtain ⟨f1', f2'⟩ := div_end ud3 h1 (M.val_nonneg M.BB_pos dy) h2
      obtain ⟨S1, S2⟩ := M.scaled (A := M.val M.BB la) (y := M.val M.BB lb) (two_pos s)
      rw [vz2.out, ← HD.out] at f1' f2'
      rw [S1] at f1'
      have FQ := hide f1'
      have FR := hide f2'
      have SR := hide S2
      have rq : Row .u64 wr (.slice (some ⟨w2.heap.size, 0, none⟩) (m + 1) (m + 1)) q := by
        have := o3.all (m + 1) (by omega) (by omega)
        rwa [lq] at this
      have rr : Row .u64 wr (.slice (some ⟨w1.heap.size, 0, none⟩) (n + 1 + m + 1) (n + 1 + m + 1)) y := by
        have := o2.all (n + 1 + m + 1) (by omega) (by omega)
        rwa [ly] at this
      have tly := M.trimmed_le y
      rw [ly] at tly
      clear f1' f2' S1 S2 h1 h2 hv hv2 ly lq HLT2 ud1 ud2 ud3 ud4 vz1 vz2 lz2 LZB
      go_wp2_with fail
      refine (trim_calls wr _ q rq).mono ?_
      rintro e w8 ⟨⟨u1, rfl, ru1, fu1⟩, hw8⟩
      rw [hw8]
      clear hw8 w8
      go_wp2_with fail
      refine (trim_calls wr _ y rr).mono ?_
      rintro e w8 ⟨⟨u2, rfl, ru2, fu2⟩, hw8⟩
      rw [hw8]
      clear hw8 w8
      go_wp2_with fail
      refine (moveDown_calls wr _ (M.trimmed y) s ru2 (M.trimmed_dig dy) (by omega) f1).mono ?_
      rintro e w9 ⟨⟨v, l, rfl, rv, fv, dv, tv, vv⟩, b9⟩
      replace vv := hide vv
      go_wp2
      go_ret2
      refine ⟨⟨u1, v, M.trimmed q, l, rfl, ru1.below b9, rv, (trim_fresh (own_fresh _ _ _) fu1).mono (by omega), fv.mono hg.size, M.trimmed_dig dq, M.trimmed_trm _, dv, tv, ?_, ?_⟩, hg.then_below b9⟩
      · rw [M.trimmed_val]; exact FQ.out
      · rw [vv.out, M.trimmed_val, FR.out]; exact SR.out
end Go.Proofs.YtlepicdpelkmlaaGreatDoor
/- ==== Cmp ==== -/
namespace Go.Proofs.YtlepicdpelkmlaaGreatDoor
open Go.RowKit
namespace M
/-- How two numbers lie. -/
def cmp (a b : Int) : Int := if a < b then -1 else if a = b then 0 else 1
theorem cmp_lt {a b : Int} (h : a < b) : cmp a b = -1 := if_pos h
theorem cmp_eq {a b : Int} (h : a = b) : cmp a b = 0 := by unfold cmp; rw [if_neg (by omega), if_pos h]
theorem cmp_gt {a b : Int} (h : b < a) : cmp a b = 1 := by unfold cmp; rw [if_neg (by omega), if_neg (by omega)]
theorem cmp_bd (a b : Int) : -1 ≤ cmp a b ∧ cmp a b ≤ 1 := by unfold cmp; split <;> (try split) <;> omega
end M

set_option maxRecDepth 100000 in
set_option maxHeartbeats 400000 in
theorem compareU64_calls (a b : Int) (w : World) : Calls Tryz.prog 106 #[.int .u64 a, .int .u64 b] w fun e w' => e = .returned (.int .i64 (M.cmp a b)) ∧ w' = w := by
  rcases Int.lt_trichotomy a b with h | h | h
  · have e := hide (M.cmp_lt h)
    go_enter Tryz.func106, Tryz.ntmps106
    go_wp2
    go_ret
    exact ⟨ret_int e.out.symm, rfl⟩
  · have e := hide (M.cmp_eq h)
    subst h
    go_enter Tryz.func106, Tryz.ntmps106
    go_wp2
    go_ret
    exact ⟨ret_int e.out.symm, rfl⟩
  · have e := hide (M.cmp_gt h)
    go_enter Tryz.func106, Tryz.ntmps106
    go_wp2
    go_ret
    exact ⟨ret_int e.out.symm, rfl⟩

set_option maxRecDepth 100000 in
set_option maxHeartbeats 400000 in
theorem compareInt_calls (a b : Int) (w : World) : Calls Tryz.prog 133 #[.int .i64 a, .int .i64 b] w fun e w' => e = .returned (.int .i64 (M.cmp a b)) ∧ w' = w := by
  rcases Int.lt_trichotomy a b with h | h | h
  · have e := hide (M.cmp_lt h)
    go_enter Tryz.func133, Tryz.ntmps133
    go_wp2
    go_ret
    exact ⟨ret_int e.out.symm, rfl⟩
  · have e := hide (M.cmp_eq h)
    subst h
    go_enter Tryz.func133, Tryz.ntmps133
    go_wp2
    go_ret
    exact ⟨ret_int e.out.symm, rfl⟩
  · have e := hide (M.cmp_gt h)
    go_enter Tryz.func133, Tryz.ntmps133
    go_wp2
    go_ret
    exact ⟨ret_int e.out.symm, rfl⟩

theorem cmp_len {a b : List Int} (ha : M.Dig M.BB a) (hb : M.Dig M.BB b) (ta : M.Trm a) (tb : M.Trm b) (h : a.length ≠ b.length) : M.cmp a.length b.length = M.cmp (M.val M.BB a) (M.val M.BB b) := by
  rcases Nat.lt_or_gt_of_ne h with h | h
  · rw [M.cmp_lt (by omega), M.cmp_lt (M.lt_of_length M.BB_pos ha hb tb h)]
  · rw [M.cmp_gt (by omega), M.cmp_gt (M.lt_of_length M.BB_pos hb ha ta h)]
theorem cmp_dig {a b : List Int} (ha : M.Dig M.BB a) (hb : M.Dig M.BB b) (hl : a.length = b.length) (k : Nat) (hk : k < a.length) (htop : a.drop (k + 1) = b.drop (k + 1)) (h : a.getD k 0 ≠ b.getD k 0) :
    M.cmp (a.getD k 0) (b.getD k 0) = M.cmp (M.val M.BB a) (M.val M.BB b) := by
  rcases Int.lt_trichotomy (a.getD k 0) (b.getD k 0) with h' | h' | h'
  · rw [M.cmp_lt h', M.cmp_lt (M.lt_of_digit M.BB_pos ha hb hl k hk htop h')]
  · exact absurd h' h
  · rw [M.cmp_gt h', M.cmp_gt (M.lt_of_digit M.BB_pos hb ha hl.symm k (by omega) htop.symm h')]
theorem drop_more {a b : List Int} (hl : a.length = b.length) (k : Nat) (hk : k < a.length) (htop : a.drop (k + 1) = b.drop (k + 1)) (h : a.getD k 0 = b.getD k 0) : a.drop k = b.drop k := by
  rw [List.drop_eq_getElem_cons hk, List.drop_eq_getElem_cons (by omega : k < b.length), htop]
  simp only [List.getD_eq_getElem?_getD, List.getElem?_eq_getElem hk, List.getElem?_eq_getElem (by omega : k < b.length), Option.getD_some] at h
  rw [h]

set_option maxRecDepth 100000 in
set_option maxHeartbeats 800000 in
theorem compareDigits_calls (w : World) (va vb : Value) (la lb : List Int) (ra : Row .u64 w va la) (rb : Row .u64 w vb lb) (da : M.Dig M.BB la) (db : M.Dig M.BB lb) (ta : M.Trm la) (tb : M.Trm lb) :
    Calls Tryz.prog 107 #[va, vb] w fun e w' => e = .returned (.int .i64 (M.cmp (M.val M.BB la) (M.val M.BB lb))) ∧ ∃ n, w' = w.drewN n := by
  obtain ⟨aa, ca, rfl, a1, a2, a3, a4⟩ := ra
  obtain ⟨ab, cb, rfl, b1, b2, b3, b4⟩ := rb
  by_cases hl : la.length = lb.length
  · have hbe : ((la.length : Int) != (lb.length : Int)) = false := by simp [hl]
    have HL := hide hl
    have hl1 : la.length ≤ lb.length := by omega
    have hl2 : lb.length ≤ la.length := by omega
    clear hl
    go_enter Tryz.func107, Tryz.ntmps107
    go_wp2
    go_loopw [5] (fun i wr => ∃ (k n : Nat), k ≤ la.length ∧ i = .int .i64 ((k : Int) - 1) ∧ Hid (la.drop k = lb.drop k) ∧ wr = w.drewN n) (fun i _ => (intOf i + 1).toNat)
    case atStart => exact ⟨la.length, 0, Nat.le_refl _, rfl, by show _ = _; rw [List.drop_length, HL.out, List.drop_length], rfl⟩
    case round =>
      obtain ⟨k, n, hk, rfl, ht, rfl⟩ := hrel
      by_cases h0 : 0 < k
      · obtain ⟨k, rfl⟩ : ∃ j, k = j + 1 := ⟨k - 1, by omega⟩
        rw [show ((k + 1 : Nat) : Int) - 1 = (k : Int) from by omega]
        obtain ⟨ba, oa, rfl, hca⟩ := a4 (by rintro rfl; simp at hk)
        obtain ⟨bb, ob, rfl, hcb⟩ := b4 (by intro e; rw [e] at hl1; simp only [List.length_nil] at hl1; omega)
        have h1 := hca k (by omega)
        have h2 := hcb k (by omega)
        clear a4 b4 hca hcb
        by_cases he : la.getD k 0 = lb.getD k 0
        · have hd := hide (drop_more HL.out k (by omega) ht.out he)
          rw [← he] at h2
          generalize la.getD k 0 = x at *
          clear he
          have hxx : (x != x) = false := by simp
          go_wp2
          go_region
          all_goals (try go_wp2)
          go_roundw
          case rel => exact ⟨k, n + 1, by omega, rfl, hd, rfl⟩
          case measure => simp [intOf]
        · have hf := hide (cmp_dig da db HL.out k (by omega) ht.out he)
          have hne : (la.getD k 0 != lb.getD k 0) = true := by simpa using he
          clear he
          generalize la.getD k 0 = x at *
          generalize lb.getD k 0 = y at *
          go_wp2
          go_region
          all_goals (try go_wp2)
          go_region_with (go_at_call 106; refine (compareU64_calls _ _ _).mono ?_; rintro e w' ⟨rfl, rfl⟩)
          all_goals (try go_wp2)
          all_goals go_ret
          all_goals exact ⟨ret_int hf.out, _, rfl⟩
      · have hk0 : k = 0 := by omega
        subst hk0
        have he : la = lb := by have := ht.out; simpa using this
        have hf := hide (M.cmp_eq (congrArg (M.val M.BB) he))
        clear he
        go_wp2
        go_ret
        exact ⟨ret_int hf.out.symm, n, rfl⟩
  · have hbe : ((la.length : Int) != (lb.length : Int)) = true := by simp; omega
    have hf := hide (cmp_len da db ta tb hl)
    clear hl
    go_enter Tryz.func107, Tryz.ntmps107
    go_wp2_with (go_at_call 133; refine (compareInt_calls _ _ _).mono ?_; rintro e w' ⟨rfl, rfl⟩)
    go_ret
    exact ⟨ret_int hf.out, 0, rfl⟩
end Go.Proofs.YtlepicdpelkmlaaGreatDoor
/- ==== AddDigits ==== -/
namespace Go.Proofs.YtlepicdpelkmlaaGreatDoor
open Go.RowKit

theorem splice_zero_val (n : Nat) (l : List Int) : M.val M.BB (splice (List.replicate n (0 : Int)) 0 l) = M.val M.BB l := by
  simp only [splice, List.take_zero, List.nil_append, M.val_append, List.drop_replicate, M.val_replicate]
  simp
theorem splice_zero_dig (n : Nat) (l : List Int) (h : M.Dig M.BB l) : M.Dig M.BB (splice (List.replicate n (0 : Int)) 0 l) := by
  simp only [splice, List.take_zero, List.nil_append, List.drop_replicate]
  exact h.append (M.Dig.replicate M.BB_pos _)
theorem splice_zero_len (n : Nat) (l : List Int) (h : l.length ≤ n) : (splice (List.replicate n (0 : Int)) 0 l).length = n := by
  rw [length_splice] <;> simp; omega

theorem sum_room {la lb : List Int} (ha : M.Dig M.BB la) (hb : M.Dig M.BB lb) (h : lb.length ≤ la.length) : M.val M.BB la + M.BB ^ 0 * M.val M.BB lb < M.BB ^ (la.length + 1) := by
  have h1 := M.val_lt M.BB_pos ha
  have h2 := M.val_lt M.BB_pos hb
  have h3 := M.pow_le M.BB_pos h
  have h4 := M.pow_pos M.BB_pos la.length
  rw [Int.pow_succ]
  have h5 : M.BB ^ la.length * 2 ≤ M.BB ^ la.length * M.BB := Int.mul_le_mul_of_nonneg_left (by decide) (by omega)
  simp
  omega

theorem addDigits_end {w w1 w2 w3 : World} {z1 z2 z3 la lb : List Int} (na : la.length ≤ 17592186044416) (hz1 : z1 = List.replicate (la.length + 1) (0 : Int)) (hg1 : w.grownBy w1 none)
    (hz2 : z2 = splice z1 0 la) (hg2 : w1.grownBy w2 (some w.heap.size)) (l3 : z3.length = z2.length) (ho3 : Own .u64 87 w3 w.heap.size z3)
    (v3 : M.val M.BB z3 = M.val M.BB z2 + M.BB ^ 0 * M.val M.BB lb) (hg3 : w2.grownBy w3 (some w.heap.size)) :
    Row .u64 w3 (.slice (some ⟨w.heap.size, 0, none⟩) (la.length + 1) (la.length + 1)) z3 ∧ M.val M.BB z3 = M.val M.BB la + M.val M.BB lb ∧ Below w.heap.size w w3 := by
  have e2 : z2.length = la.length + 1 := by rw [hz2, hz1]; exact splice_zero_len _ _ (by omega)
  have e3 : M.val M.BB z2 = M.val M.BB la := by rw [hz2, hz1]; exact splice_zero_val _ _
  refine ⟨?_, by rw [v3, e3]; simp, ((grown_below hg1).then_grown hg2 (by simp)).then_grown hg3 (by simp)⟩
  have := ho3.all (la.length + 1) (by omega) (by omega)
  rwa [l3, e2] at this

set_option maxRecDepth 100000 in
set_option maxHeartbeats 1600000 in
theorem addDigits_calls (w : World) (va vb : Value) (la lb : List Int) (ra : Row .u64 w va la) (rb : Row .u64 w vb lb) (da : M.Dig M.BB la) (db : M.Dig M.BB lb)
    (na : la.length ≤ 17592186044416) (nb : lb.length ≤ 17592186044416) :
    Calls Tryz.prog 114 #[va, vb] w fun e w' => (∃ v l, e = .returned v ∧ Row .u64 w' v l ∧ Fresh w.heap.size v l ∧ M.Dig M.BB l ∧ M.Trm l ∧ M.val M.BB l = M.val M.BB la + M.val M.BB lb) ∧ Below w.heap.size w w' := by
  obtain ⟨aa, ca, hva⟩ := (show ∃ ao c, va = .slice ao la.length c from ⟨_, _, ra.choose_spec.choose_spec.1⟩)
  obtain ⟨ab, cb, hvb⟩ := (show ∃ ao c, vb = .slice ao lb.length c from ⟨_, _, rb.choose_spec.choose_spec.1⟩)
  subst hva hvb
  by_cases hsw : la.length < lb.length
  · go_enter Tryz.func114, Tryz.ntmps114
    go_wp2_with (first
      | (at_make; refine wpList_make_row _ rfl _ _ _ rfl .u64 _ 8 sliceU64 infoU64 .i64 .i64 _ _ (lb.length + 1) rfl rfl (by omega) (by omega) (by decide) (by omega) ?_; intro w1 z1 hz1 ho1 hg1 hs1; have l1 : lb.length + 1 ≤ z1.length := by rw [hz1.out]; simp)
      | ((with_reducible refine is_copy ?_); refine at_copy .u64 87 sliceU64 sizeU64 w.heap.size 0 (lb.length + 1) (lb.length + 1) _ lb z1 rfl rfl (rb.kept hg1 (by simp)) ho1 (by omega) (by omega) ?_; intro w2 z2 hz2 ho2 hg2)
      | (go_at_call 124; fail))
    have l2 : z2.length = lb.length + 1 := by rw [hz2.out, hz1.out]; exact splice_zero_len _ _ (by omega)
    have d2 : M.Dig M.BB z2 := by rw [hz2.out, hz1.out]; exact splice_zero_dig _ _ db
    have v2 : M.val M.BB z2 = M.val M.BB lb := by rw [hz2.out, hz1.out]; exact splice_zero_val _ _
    have C := addAt_calls w2 w.heap.size z2 (.slice aa la.length ca) (lb.length + 1) 0 la ho2 d2 ((ra.kept hg1 (by simp)).kept hg2 (by rintro g ⟨⟩; exact ra.apart (Nat.le_refl _))) da (by omega) (by omega) (ra.apart (Nat.le_refl _)) (by rw [v2, l2]; exact sum_room db da (by omega))
    rw [l2] at C
    refine C.mono ?_
    rintro e w3 ⟨rfl, z3, ho3, d3, l3, v3, hg3⟩
    clear C
    have E := addDigits_end nb hz1.out hg1 hz2.out hg2 (by omega) ho3 v3 hg3
    obtain ⟨r3, v3', b3⟩ := E
    have V3 := hide v3'
    clear v3 v3' v2 l2 l3
    go_wp2_with (go_at_call 120; refine (trim_calls _ _ z3 r3).mono ?_; rintro e w' ⟨⟨u, rfl, ru, fu⟩, rfl⟩)
    go_ret
    exact ⟨⟨u, M.trimmed z3, rfl, ru, trim_fresh (own_fresh _ _ _) fu, M.trimmed_dig d3, M.trimmed_trm _, by rw [M.trimmed_val, V3.out]; omega⟩, b3⟩
  · go_enter Tryz.func114, Tryz.ntmps114
    go_wp2_with (first
      | (at_make; refine wpList_make_row _ rfl _ _ _ rfl .u64 _ 8 sliceU64 infoU64 .i64 .i64 _ _ (la.length + 1) rfl rfl (by omega) (by omega) (by decide) (by omega) ?_; intro w1 z1 hz1 ho1 hg1 hs1; have l1 : la.length + 1 ≤ z1.length := by rw [hz1.out]; simp)
      | ((with_reducible refine is_copy ?_); refine at_copy .u64 87 sliceU64 sizeU64 w.heap.size 0 (la.length + 1) (la.length + 1) _ la z1 rfl rfl (ra.kept hg1 (by simp)) ho1 (by omega) (by omega) ?_; intro w2 z2 hz2 ho2 hg2)
      | (go_at_call 124; fail))
    have l2 : z2.length = la.length + 1 := by rw [hz2.out, hz1.out]; exact splice_zero_len _ _ (by omega)
    have d2 : M.Dig M.BB z2 := by rw [hz2.out, hz1.out]; exact splice_zero_dig _ _ da
    have v2 : M.val M.BB z2 = M.val M.BB la := by rw [hz2.out, hz1.out]; exact splice_zero_val _ _
    have C := addAt_calls w2 w.heap.size z2 (.slice ab lb.length cb) (la.length + 1) 0 lb ho2 d2 ((rb.kept hg1 (by simp)).kept hg2 (by rintro g ⟨⟩; exact rb.apart (Nat.le_refl _))) db (by omega) (by omega) (rb.apart (Nat.le_refl _)) (by rw [v2, l2]; exact sum_room da db (by omega))
    rw [l2] at C
    refine C.mono ?_
    rintro e w3 ⟨rfl, z3, ho3, d3, l3, v3, hg3⟩
    clear C
    have E := addDigits_end na hz1.out hg1 hz2.out hg2 (by omega) ho3 v3 hg3
    obtain ⟨r3, v3', b3⟩ := E
    have V3 := hide v3'
    clear v3 v3' v2 l2 l3
    go_wp2_with (go_at_call 120; refine (trim_calls _ _ z3 r3).mono ?_; rintro e w' ⟨⟨u, rfl, ru, fu⟩, rfl⟩)
    go_ret
    exact ⟨⟨u, M.trimmed z3, rfl, ru, trim_fresh (own_fresh _ _ _) fu, M.trimmed_dig d3, M.trimmed_trm _, by rw [M.trimmed_val, V3.out]⟩, b3⟩
end Go.Proofs.YtlepicdpelkmlaaGreatDoor
/- ==== SubDigits ==== -/
namespace Go.Proofs.YtlepicdpelkmlaaGreatDoor
open Go.RowKit

theorem sub_step {y l : List Int} {k : Nat} {u x c V : Int} (hlen : k < y.length) (hlt : k < l.length) (hx : l.getD k 0 = x) (hy : y.getD k 0 = u) (u0 : 0 ≤ u ∧ u < M.BB) (x0 : 0 ≤ x ∧ x < M.BB) (c0 : 0 ≤ c) (c1 : c ≤ 1)
    (hv : M.val M.BB y - M.BB ^ k * c = V - M.val M.BB (l.take k)) :
    M.val M.BB (y.set k (M.lo (u - x - c))) - M.BB ^ (k + 1) * M.bo (u - x - c) = V - M.val M.BB (l.take (k + 1)) := by
  rw [M.val_set _ _ _ hlen, M.val_take_succ _ _ hlt, hx, hy, Int.pow_succ]
  have := M.lo_bo (x := u - x - c) (by omega) (by omega)
  generalize M.lo (u - x - c) = p at *
  generalize M.bo (u - x - c) = q at *
  grind
theorem borrow_step {y : List Int} {n : Nat} {u V : Int} (hlt : n < y.length) (hy : y.getD n 0 = u) (u0 : 0 ≤ u ∧ u < M.BB) (hv : M.val M.BB y - M.BB ^ n * 1 = V) :
    M.val M.BB (y.set n (M.lo (u - 1))) - M.BB ^ (n + 1) * M.bo (u - 1) = V := by
  rw [M.val_set _ _ _ hlt, hy, Int.pow_succ]
  have := M.lo_bo (x := u - 1) (by have := M.BB_pos; omega) (by omega)
  generalize M.lo (u - 1) = p at *
  generalize M.bo (u - 1) = q at *
  grind

theorem splice_all (n : Nat) (l : List Int) (h : l.length = n) : splice (List.replicate n (0 : Int)) 0 l = l := by
  simp [splice, h]

set_option maxRecDepth 100000 in
set_option maxHeartbeats 1600000 in
theorem subDigits_calls (w : World) (va vb : Value) (la lb : List Int) (ra : Row .u64 w va la) (rb : Row .u64 w vb lb) (da : M.Dig M.BB la) (db : M.Dig M.BB lb)
    (na : la.length ≤ 35184372088832) (nb : lb.length ≤ la.length) (hle : M.val M.BB lb ≤ M.val M.BB la) :
    Calls Tryz.prog 115 #[va, vb] w fun e w' => (∃ v l, e = .returned v ∧ Row .u64 w' v l ∧ Fresh w.heap.size v l ∧ M.Dig M.BB l ∧ M.Trm l ∧ M.val M.BB l = M.val M.BB la - M.val M.BB lb) ∧ Below w.heap.size w w' := by
  obtain ⟨aa, ca, hva⟩ := (show ∃ ao c, va = .slice ao la.length c from ⟨_, _, ra.choose_spec.choose_spec.1⟩)
  subst hva
  have HLE := hide hle
  clear hle
  obtain ⟨ab, cb, rfl, b1, b2, b3, b4⟩ := rb
  go_enter Tryz.func115, Tryz.ntmps115
  go_wp2_with (first
    | (at_make; refine wpList_make_row _ rfl _ _ _ rfl .u64 _ 8 sliceU64 infoU64 .i64 .i64 _ _ la.length rfl rfl (by omega) (by omega) (by decide) (by omega) ?_; intro w1 z1 hz1 ho1 hg1 hs1; have l1 : la.length ≤ z1.length := by rw [hz1.out]; simp)
    | ((with_reducible refine is_copy ?_); refine at_copy .u64 87 sliceU64 sizeU64 w.heap.size 0 la.length la.length _ la z1 rfl rfl (ra.kept hg1 (by simp)) ho1 (by omega) (by omega) ?_; intro w2 z2 hz2 ho2 hg2))
  obtain rfl : z2 = la := by rw [hz2.out, hz1.out]; exact splice_all _ _ rfl
  have hg12 : Below w.heap.size w w2 := (grown_below hg1).then_grown hg2 (by simp)
  clear hz1 hz2 ho1 hg1 hg2 hs1 l1 ra
  go_loopw [6, 18] (fun cv i wr => ∃ (k : Nat) (c : Int) (y : List Int), k ≤ lb.length ∧ i = .int .i64 k ∧ cv = .int .u64 c ∧ 0 ≤ c ∧ c ≤ 1 ∧ Own .u64 87 wr w.heap.size y ∧ M.Dig M.BB y ∧ y.length = z2.length ∧
      Hid (M.val M.BB y - M.BB ^ k * c = M.val M.BB z2 - M.val M.BB (lb.take k)) ∧ Below w.heap.size w wr) (fun _ i _ => lb.length - (intOf i).toNat)
  case atStart => exact ⟨0, 0, z2, Nat.zero_le _, rfl, rfl, by decide, by decide, ho2, da, rfl, by show _ = _; simp [M.val], hg12⟩
  case round =>
    clear hg12 ho2
    obtain ⟨k, c, y, hk, rfl, rfl, hc0, hc1, hy, hyd, hyl, hv, hg⟩ := hrel
    by_cases hlt : k < lb.length
    · obtain ⟨bb, ob, rfl, hcb⟩ := b4 (by rintro rfl; simp at hlt)
      have hbl : bb < w.heap.size := World.block_lt_of_cell? w _ (hcb k hlt)
      have hcell : wr.cell? ⟨bb, ob + k, none⟩ = some (.int .u64 (lb.getD k 0)) := (hg.cell (p := ⟨bb, ob + k, none⟩) hbl).trans (hcb k hlt)
      have hcy := hy.cell k (by omega)
      have hfy := hy.frozen k
      have hb1 := db.getD M.BB_pos k
      have hb2 := hyd.getD M.BB_pos k
      generalize hx : lb.getD k 0 = x at *
      generalize hyx : y.getD k 0 = u at *
      have hadd := sub64 u x c hb2.1 hb1.1 hb1.2 hc0 hc1
      clear hcb b4
      have Hx := hide hx
      have Hy := hide hyx
      have Hl := hide hyl
      clear hx hyx hyl
      go_wp2_with fail
      go_roundw
      case rel =>
        refine ⟨k + 1, M.bo (u - x - c), y.set k (M.lo (u - x - c)), by omega, by go_num, rfl, (M.bo_bd _).1, (M.bo_bd _).2, hy.set _ _, hyd.set _ (M.lo_bd _).1 (M.lo_bd _).2, by simpa using Hl.out, ?_, ?_⟩
        · show _ = _
          exact sub_step (by have := Hl.out; omega) hlt Hx.out Hy.out hb2 hb1 hc0 hc1 hv.out
        · exact hg.then_grown (grown_set _ _ _ _) (by simp)
      case measure => simp [intOf]; omega
    · have hk' : k = lb.length := by omega
      subst hk'
      rw [List.take_length] at hv
      clear b4
      go_wp2
      go_loopw [6, 9] (fun cv i wr => ∃ (n : Nat) (c : Int) (y : List Int), n ≤ z2.length ∧ i = .int .i64 n ∧ cv = .int .u64 c ∧ 0 ≤ c ∧ c ≤ 1 ∧ Own .u64 87 wr w.heap.size y ∧ M.Dig M.BB y ∧ y.length = z2.length ∧
        Hid (M.val M.BB y - M.BB ^ n * c = M.val M.BB z2 - M.val M.BB lb) ∧ Below w.heap.size w wr) (fun _ i _ => z2.length - (intOf i).toNat)
      case atStart => exact ⟨lb.length, c, y, by omega, rfl, rfl, hc0, hc1, hy, hyd, hyl, hv, hg⟩
      case round =>
        clear hc0 hc1 hy hyd hyl hv hg
        obtain ⟨n, c, y, hn, rfl, rfl, hc0, hc1, hy, hyd, hyl, hv, hg⟩ := hrel
        by_cases hz0 : c = 0
        · subst hz0
          have r3 : Row .u64 wr (.slice (some ⟨w.heap.size, 0, none⟩) z2.length z2.length) y := by
            have := hy.all z2.length (by omega) (by omega)
            rwa [hyl] at this
          have HY := hide hyl
          clear hyl
          go_wp2_with (go_at_call 120; refine (trim_calls _ _ y r3).mono ?_; rintro e w' ⟨⟨u, rfl, ru, fu⟩, rfl⟩)
          go_ret
          exact ⟨⟨u, M.trimmed y, rfl, ru, trim_fresh (own_fresh _ _ _) fu, M.trimmed_dig hyd, M.trimmed_trm _, by rw [M.trimmed_val]; have := hv.out; simpa using this⟩, hg⟩
        · have hc' : c = 1 := by omega
          subst hc'
          have hlt : n < z2.length := by
            have h1 := hv.out
            have h2 := HLE.out
            have h3 := M.val_lt M.BB_pos hyd
            rw [hyl] at h3
            rcases Nat.lt_or_ge n z2.length with h | h
            · exact h
            · have := M.pow_le M.BB_pos h
              omega
          have hcy := hy.cell n (by omega)
          have hfy := hy.frozen n
          have hb2 := hyd.getD M.BB_pos n
          generalize hyx : y.getD n 0 = u at *
          have hadd := sub64_0 u 1 hb2.1 (by decide) (by decide)
          have Hy := hide hyx
          have Hl := hide hyl
          clear hyx hyl
          go_wp2_with fail
          go_roundw
          case rel =>
            refine ⟨n + 1, M.bo (u - 1), y.set n (M.lo (u - 1)), by omega, by go_num, rfl, (M.bo_bd _).1, (M.bo_bd _).2, hy.set _ _, hyd.set _ (M.lo_bd _).1 (M.lo_bd _).2, by simpa using Hl.out, ?_, ?_⟩
            · show _ = _
              exact borrow_step (by have := Hl.out; omega) Hy.out hb2 hv.out
            · exact hg.then_grown (grown_set _ _ _ _) (by simp)
          case measure => simp [intOf]; omega
end Go.Proofs.YtlepicdpelkmlaaGreatDoor
/- ==== MulDigits ==== -/
namespace Go.Proofs.YtlepicdpelkmlaaGreatDoor
open Go.RowKit
set_option linter.unusedVariables false

theorem lop_eq (p q b h : Int) : p * b + h * (q * b) = (p + h * q) * b := by grind

/-- mulDigits does its work at lists that are together no longer than N. -/
def MulOk (N : Nat) : Prop := ∀ (w : World) (va vb : Value) (la lb : List Int), Row .u64 w va la → Row .u64 w vb lb → M.Dig M.BB la → M.Dig M.BB lb → la.length + lb.length ≤ 17592186044416 → la.length + lb.length ≤ N →
    Calls Tryz.prog 99 #[va, vb] w fun e w' => (∃ v l, e = .returned v ∧ Row .u64 w' v l ∧ Fresh w.heap.size v l ∧ M.Dig M.BB l ∧ M.Trm l ∧ M.val M.BB l = M.val M.BB la * M.val M.BB lb) ∧ Below w.heap.size w w'

set_option maxRecDepth 100000 in
set_option maxHeartbeats 1600000 in
theorem mulLopsided_calls (N half : Nat) (ih : MulOk N) (w : World) (va vb : Value) (la lb : List Int) (ra : Row .u64 w va la) (rb : Row .u64 w vb lb) (da : M.Dig M.BB la) (db : M.Dig M.BB lb)
    (na : la.length + lb.length ≤ 17592186044416) (h0 : 0 < half) (hh : half < la.length) (hN : la.length + lb.length ≤ N + 1) :
    Calls Tryz.prog 123 #[va, vb, .int .i64 half] w fun e w' => (∃ v l, e = .returned v ∧ Row .u64 w' v l ∧ Fresh w.heap.size v l ∧ M.Dig M.BB l ∧ M.Trm l ∧ M.val M.BB l = M.val M.BB la * M.val M.BB lb) ∧ Below w.heap.size w w' := by
  have rb' := rb
  obtain ⟨ab, cb, hvb⟩ := (show ∃ ao c, vb = .slice ao lb.length c from ⟨_, _, rb.choose_spec.choose_spec.1⟩)
  subst hvb
  have ra' := ra
  obtain ⟨aa, ca, rfl, a1, a2, a3, a4⟩ := ra
  obtain ⟨b, off, rfl, hca⟩ := a4 (by rintro rfl; simp at hh)
  clear hca a3 a4
  have t1 : (la.take half).length = half := by rw [List.length_take]; omega
  have t2 : (la.drop half).length = la.length - half := by simp
  go_enter Tryz.func123, Tryz.ntmps123
  go_wp2_with (first
    | (at_make; refine wpList_make_row _ rfl _ _ _ rfl .u64 _ 8 sliceU64 infoU64 .i64 .i64 _ _ (la.length + lb.length) rfl rfl (by omega) (by omega) (by decide) (by omega) ?_; intro w1 z1 hz1 ho1 hg1 hs1)
    | (go_at_call 120; refine (trim_calls _ _ (la.take half) ((ra'.kept hg1 (by simp)).take half (by omega))).mono ?_; rintro e w' ⟨⟨u, rfl, ru, fu⟩, rfl⟩)
    | (go_at_call 99; fail))
  have q1 := M.trimmed_le (la.take half)
  have C1 := ih _ _ _ _ _ ru (rb'.kept hg1 (by simp)) (M.trimmed_dig (da.take half)) db (by omega) (by omega)
  refine C1.mono ?_
  clear C1
  clear ru fu
  rintro e w2 ⟨⟨v2, l2, rfl, r2, f2, d2, m2, x2⟩, b2⟩
  rw [M.trimmed_val] at x2
  have n2 : l2.length ≤ half + lb.length := by
    refine M.length_le_of_lt M.BB_pos d2 m2 ?_
    rw [x2]
    have := M.mul_val_lt M.BB_pos (da.take half) db
    rwa [t1] at this
  have X2 := hide x2
  clear x2
  have ho2 := ho1.below b2
  have l1 : la.length + lb.length = z1.length := by rw [hz1.out]; simp
  have L1 := hide l1
  have l1' : la.length + lb.length ≤ z1.length := by omega
  clear l1
  have T1 := hide t1
  have T2 := hide t2
  clear t1 t2
  go_wp2_with (first
    | ((with_reducible refine is_copy ?_); refine at_copy .u64 87 sliceU64 sizeU64 w.heap.size 0 (la.length + lb.length) (la.length + lb.length) _ l2 z1 rfl rfl r2 ho2 (by omega) (by omega) ?_; intro w3 z3 hz3 ho3 hg3)
    | (go_at_call 99; fail))
  have b3 : Below w.heap.size w w3 := ((grown_below hg1).then_below b2).then_grown hg3 (by simp)
  have C2 := ih w3 _ _ (la.drop half) lb ((ra'.below b3).drop half (by omega)) (rb'.below b3) (da.drop half) db (by rw [T2.out]; omega) (by rw [T2.out]; omega)
  refine C2.mono ?_
  clear C2
  rintro e w4 ⟨⟨v4, l4, rfl, r4, f4, d4, m4, x4⟩, b4⟩
  have ho4 := ho3.below b4
  have e3 : z3 = splice (List.replicate (la.length + lb.length) (0 : Int)) 0 l2 := by rw [hz3.out, hz1.out]
  have l3 : z3.length = la.length + lb.length := by rw [e3]; exact splice_zero_len _ _ (by omega)
  have d3 : M.Dig M.BB z3 := by rw [e3]; exact splice_zero_dig _ _ d2
  have x3 : M.val M.BB z3 = M.val M.BB l2 := by rw [e3]; exact splice_zero_val _ _
  have n4 : l4.length ≤ la.length - half + lb.length := by
    refine M.length_le_of_lt M.BB_pos d4 m4 ?_
    rw [x4]
    have := M.mul_val_lt M.BB_pos (da.drop half) db
    rwa [T2.out] at this
  have x5 : M.val M.BB z3 + M.BB ^ half * M.val M.BB l4 = M.val M.BB la * M.val M.BB lb := by
    rw [x3, X2.out, x4, M.val_take_drop (B := M.BB) la half (by omega)]
    exact lop_eq _ _ _ _
  have ap : Apart v4 l4 w.heap.size := f4.apart ho3.lt
  have C := addAt_calls w4 w.heap.size z3 v4 (la.length + lb.length) half l4 ho4 d3 r4 d4 (by omega) (by omega) ap (by rw [x5, l3]; exact M.mul_val_lt M.BB_pos da db)
  rw [l3] at C
  have C := hide C
  clear e3 hz3 hz1 x3 x4
  have L3 := hide l3
  have X5 := hide x5
  clear l3 x5
  go_wp2_with (first
    | (go_at_call 124; refine (unhide C).mono ?_; rintro e w5 ⟨rfl, z5, ho5, d5, l5, x6, g5⟩)
    | (go_at_call 120; fail))
  have r5 : Row .u64 w5 (.slice (some ⟨w.heap.size, 0, none⟩) (la.length + lb.length) (la.length + lb.length)) z5 := by
    have := ho5.all (la.length + lb.length) (by rw [l5]; omega) (by omega)
    rwa [l5] at this
  have x7 := hide (x6.trans X5.out)
  clear C l5 x6
  go_wp2_with (go_at_call 120; refine (trim_calls _ _ z5 r5).mono ?_; rintro e w' ⟨⟨u, rfl, ru, fu⟩, rfl⟩)
  go_ret
  exact ⟨⟨u, M.trimmed z5, rfl, ru, trim_fresh (own_fresh _ _ _) fu, M.trimmed_dig d5, M.trimmed_trm _, by rw [M.trimmed_val]; exact x7.out⟩, (b3.then_below b4).then_grown g5 (by simp)⟩
end Go.Proofs.YtlepicdpelkmlaaGreatDoor
/- ==== MulBig ==== -/
namespace Go.Proofs.YtlepicdpelkmlaaGreatDoor
open Go.RowKit
set_option linter.unusedVariables false

theorem sum_lt {a b : List Int} {n : Nat} (da : M.Dig M.BB a) (db : M.Dig M.BB b) (ha : a.length ≤ n) (hb : b.length ≤ n) : M.val M.BB a + M.val M.BB b < M.BB ^ (n + 1) := by
  have h1 := M.val_lt M.BB_pos da
  have h2 := M.val_lt M.BB_pos db
  have h3 := M.pow_le M.BB_pos ha
  have h4 := M.pow_le M.BB_pos hb
  have h5 := M.pow_pos M.BB_pos n
  rw [Int.pow_succ]
  have h6 : M.BB ^ n * 2 ≤ M.BB ^ n * M.BB := Int.mul_le_mul_of_nonneg_left (by decide) (by omega)
  omega
theorem kara {a0 a1 b0 b1 : Int} (h0 : 0 ≤ a0) (h1 : 0 ≤ a1) (h2 : 0 ≤ b0) (h3 : 0 ≤ b1) : a0 * b0 + a1 * b1 ≤ (a0 + a1) * (b0 + b1) ∧ 0 ≤ a0 * b0 ∧ 0 ≤ a1 * b1 := by
  have := Int.mul_nonneg h0 h2
  have := Int.mul_nonneg h0 h3
  have := Int.mul_nonneg h1 h2
  have := Int.mul_nonneg h1 h3
  rw [Int.add_mul, Int.mul_add, Int.mul_add]
  omega
theorem kara_eq (a0 a1 b0 b1 : Int) (B : Int) (n : Nat) : a0 * b0 + B ^ (2 * n) * (a1 * b1) + B ^ n * ((a0 + a1) * (b0 + b1) - a0 * b0 - a1 * b1) = (a0 + B ^ n * a1) * (b0 + B ^ n * b1) := by
  rw [Nat.two_mul, Int.pow_add]
  grind
theorem splice_two (N off : Nat) (a b : List Int) (da : M.Dig M.BB a) (db : M.Dig M.BB b) (ha : a.length ≤ off) (hb : off + b.length ≤ N) :
    (splice (splice (List.replicate N (0 : Int)) 0 a) off b).length = N ∧ M.Dig M.BB (splice (splice (List.replicate N (0 : Int)) 0 a) off b) ∧
    M.val M.BB (splice (splice (List.replicate N (0 : Int)) 0 a) off b) = M.val M.BB a + M.BB ^ off * M.val M.BB b := by
  have e1 : splice (List.replicate N (0 : Int)) 0 a = a ++ List.replicate (N - a.length) 0 := by simp [splice, List.drop_replicate]
  have e2 : splice (a ++ List.replicate (N - a.length) (0 : Int)) off b = a ++ (List.replicate (off - a.length) 0 ++ (b ++ List.replicate (N - a.length - (off - a.length + b.length)) 0)) := by
    unfold splice
    rw [List.take_append, List.take_of_length_le ha, List.drop_append, List.drop_eq_nil_of_le (by omega), List.take_replicate, List.drop_replicate, List.append_assoc]
    rw [Nat.min_eq_left (by omega), show off + b.length - a.length = off - a.length + b.length by omega]
    simp
  rw [e1, e2]
  refine ⟨by simp; omega, da.append ((M.Dig.replicate M.BB_pos _).append (db.append (M.Dig.replicate M.BB_pos _))), ?_⟩
  simp only [M.val_append, M.val_replicate, List.length_replicate]
  have : M.BB ^ off = M.BB ^ a.length * M.BB ^ (off - a.length) := by rw [← Int.pow_add]; congr 1; omega
  rw [this]
  grind
theorem row_trimmed {k : IntKind} {w : World} {ao : Option Addr} {n c : Nat} {l : List Int} (r : Row k w (.slice ao n c) l) : Row k w (.slice ao (M.trimmed l).length c) (M.trimmed l) := by
  have h1 := r.take (M.trimmed l).length (by
    obtain ⟨_, _, e, _⟩ := r
    simp at e
    rw [e.2.1]
    exact M.trimmed_le l)
  rwa [← M.trimmed_take] at h1
theorem trim_front (w : World) (b o c : Nat) (l : List Int) (r : Row .u64 w (.slice (some ⟨b, o, none⟩) l.length c) l) (m : Nat) (hm : m ≤ l.length) (n : Nat) :
    Calls Tryz.prog 120 #[.slice (some ⟨b, o, none⟩) m c] (w.drewN n) fun e w' => e = .returned (.slice (some ⟨b, o, none⟩) (M.trimmed (l.take m)).length c) ∧ w' = w.drewN n := by
  have r' := r.take m hm
  obtain ⟨ao, cap, e, h1, h2, h3, h4⟩ := r'
  simp at e
  obtain ⟨rfl, e1, rfl⟩ := e
  have h0 : ∀ j, j < (l.take m).length → (w.drewN n).cell? ⟨b, o + j, none⟩ = some (.int .u64 ((l.take m).getD j 0)) := by
    intro j hj
    obtain ⟨b', o', e, hc⟩ := h4 (by rintro h; rw [h] at hj; simp at hj)
    simp at e
    obtain ⟨rfl, rfl⟩ := e
    exact hc j hj
  have := trim_at (w.drewN n) b o c (l.take m) h1 h2 h0
  have e2 : (l.take m).length = m := by rw [List.length_take]; omega
  rwa [e2] at this

set_option maxRecDepth 100000 in
set_option maxHeartbeats 1000000 in
theorem mulBig (N half : Nat) (ih : MulOk N) (w : World) (bx ox cx by_ oy cy : Nat) (lx ly : List Int) (rx : Row .u64 w (.slice (some ⟨bx, ox, none⟩) lx.length cx) lx) (ry : Row .u64 w (.slice (some ⟨by_, oy, none⟩) ly.length cy) ly)
    (dx : M.Dig M.BB lx) (dy : M.Dig M.BB ly) (na : lx.length + ly.length ≤ 17592186044416) (h40 : 40 ≤ ly.length) (hle : ly.length ≤ lx.length) (hN : lx.length + ly.length ≤ N + 1)
    (hh : ((lx.length : Int) + 1) / 2 = (half : Int)) (hbig : half < ly.length) :
    Calls Tryz.prog 99 #[.slice (some ⟨bx, ox, none⟩) lx.length cx, .slice (some ⟨by_, oy, none⟩) ly.length cy] w fun e w' => (∃ v l, e = .returned v ∧ Row .u64 w' v l ∧ Fresh w.heap.size v l ∧ M.Dig M.BB l ∧ M.Trm l ∧ M.val M.BB l = M.val M.BB lx * M.val M.BB ly) ∧ Below w.heap.size w w' := by
  have i0 : (0 : Int) ≤ (half : Int) := by omega
  have i1 : (half : Int) ≤ (lx.length : Int) := by omega
  have i2 : (half : Int) ≤ (ly.length : Int) := by omega
  have rx' := rx
  have ry' := ry
  obtain ⟨_, _, e, c1, c2, _, c4⟩ := rx
  simp at e
  obtain ⟨rfl, rfl⟩ := e
  obtain ⟨_, _, e, hcx⟩ := c4 (by rintro rfl; simp only [List.length_nil] at *; omega)
  simp at e
  obtain ⟨rfl, rfl⟩ := e
  clear c4
  have c3 : ly.length ≤ cy := by
    obtain ⟨_, _, e, q1, _⟩ := ry
    simp at e
    omega
  have i4 : (half : Int) ≤ (cy : Int) := by omega
  have i3 : (half : Int) ≤ (cx : Int) := by omega
  have T1 := hide (fun n => trim_front w bx ox cx lx rx' half (by omega) n)
  clear hcx
  go_enter Tryz.func99, Tryz.ntmps99
  go_wp2_with fail
  go_quiet ((go_at_call 120; exact Calls.quiet_of_same (unhide T1 _)))
  generalize hW : w.drewN nq = W
  have bW : Below w.heap.size w W := by rw [← hW]; exact ⟨rfl, rfl, rfl, Nat.le_refl _, fun _ _ => rfl⟩
  have rx1 : Row .u64 W _ lx := rx'.below bW
  have ry1 : Row .u64 W _ ly := ry'.below bW
  clear hW T1
  have T2 := hide (fun n => trim_front W by_ oy cy ly ry1 half (by omega) n)
  go_wp2_with fail
  go_quiet ((go_at_call 120; exact Calls.quiet_of_same (unhide T2 _)))
  clear T2
  generalize hV : W.drewN nq = V
  have bV : Below w.heap.size w V := by rw [← hV]; exact ⟨bW.os, bW.tape, bW.output, bW.size, bW.block⟩
  clear rx1 ry1 hV bW
  have rla : Row .u64 V (.slice (some ⟨bx, ox, none⟩) (M.trimmed (lx.take half)).length cx) (M.trimmed (lx.take half)) := row_trimmed ((rx'.below bV).take half (by omega))
  have rlb : Row .u64 V (.slice (some ⟨by_, oy, none⟩) (M.trimmed (ly.take half)).length cy) (M.trimmed (ly.take half)) := row_trimmed ((ry'.below bV).take half (by omega))
  have rha := (rx'.below bV).drop half (by omega)
  have rhb := (ry'.below bV).drop half (by omega)
  have qa := M.trimmed_le (lx.take half)
  have qb := M.trimmed_le (ly.take half)
  rw [List.length_take] at qa qb
  have ta : (lx.drop half).length = lx.length - half := by simp
  have tb : (ly.drop half).length = ly.length - half := by simp
  have vlx := M.val_take_drop (B := M.BB) lx half (by omega)
  have vly := M.val_take_drop (B := M.BB) ly half (by omega)
  have dla := M.trimmed_dig (dx.take half)
  have dlb := M.trimmed_dig (dy.take half)
  have dha := dx.drop half
  have dhb := dy.drop half
  rw [← M.trimmed_val (B := M.BB) (lx.take half)] at vlx
  rw [← M.trimmed_val (B := M.BB) (ly.take half)] at vly
  generalize hla : M.trimmed (lx.take half) = la at *
  generalize hlb : M.trimmed (ly.take half) = lb at *
  generalize hha : lx.drop half = ha at *
  generalize hhb : ly.drop half = hb at *
  clear hla hlb hha hhb rx' ry' ry
  have VX := hide vlx
  have VY := hide vly
  have QA : la.length ≤ half := by omega
  have QB : lb.length ≤ half := by omega
  have QA1 : ha.length ≤ half := by omega
  have QB1 : hb.length ≤ half := by omega
  have HA : Hid (lx.length = half + ha.length) := by show _ = _; omega
  have HB : Hid (ly.length = half + hb.length) := by show _ = _; omega
  have ta' : lx.length - half = ha.length := ta.symm
  have tb' : ly.length - half = hb.length := tb.symm
  rw [ta'] at rha
  rw [tb'] at rhb
  clear vlx vly ta tb qa qb
  go_wp2_with fail
  have C := ih V _ _ _ _ rla rlb dla dlb (by omega) (by omega)
  refine C.mono ?_
  clear C
  rintro e w1 ⟨⟨v1, l1, rfl, r1, f1, d1, m1, x1⟩, b1⟩
  have X1 := hide x1
  clear x1
  go_wp2_with fail
  have C := ih w1 _ _ ha hb (rha.below b1) (rhb.below b1) dha dhb (by omega) (by omega)
  refine C.mono ?_
  clear C
  rintro e w2 ⟨⟨v2, l2, rfl, r2, f2, d2, m2, x2⟩, b2⟩
  have X2 := hide x2
  have bb2 := b1.then_below b2
  clear x2
  -- the sums of the halves
  go_wp2_with fail
  have C := addDigits_calls w2 _ _ la ha (rla.below bb2) (rha.below bb2) dla dha (by omega) (by omega)
  refine C.mono ?_
  clear C
  rintro e w3 ⟨⟨v3, l3, rfl, r3, f3, d3, m3, x3⟩, b3⟩
  have X3 := hide x3
  have bb3 := bb2.then_below b3
  clear x3
  go_wp2_with fail
  have C := addDigits_calls w3 _ _ lb hb (rlb.below bb3) (rhb.below bb3) dlb dhb (by omega) (by omega)
  refine C.mono ?_
  clear C
  rintro e w4 ⟨⟨v4, l4, rfl, r4, f4, d4, m4, x4⟩, b4⟩
  have X4 := hide x4
  have bb4 := bb3.then_below b4
  clear x4
  have n3 : l3.length ≤ half + 1 := M.length_le_of_lt M.BB_pos d3 m3 (by rw [X3.out]; exact sum_lt dla dha QA QA1)
  have n4 : l4.length ≤ half + 1 := M.length_le_of_lt M.BB_pos d4 m4 (by rw [X4.out]; exact sum_lt dlb dhb QB QB1)
  go_wp2_with fail
  have C := ih w4 _ _ l3 l4 (r3.below b4) r4 d3 d4 (by omega) (by omega)
  refine C.mono ?_
  clear C
  rintro e w5 ⟨⟨v5, l5, rfl, r5, f5, d5, m5, x5⟩, b5⟩
  rw [X3.out, X4.out] at x5
  have X5 := hide x5
  have bb5 := bb4.then_below b5
  clear x5 rla rlb rha rhb r3 r4 f3 f4
  have K := kara (M.val_nonneg M.BB_pos dla) (M.val_nonneg M.BB_pos dha) (M.val_nonneg M.BB_pos dlb) (M.val_nonneg M.BB_pos dhb)
  rw [← X1.out, ← X2.out, ← X5.out] at K
  have n5 : l5.length ≤ half + 1 + (half + 1) := by
    refine M.length_le_of_lt M.BB_pos d5 m5 ?_
    have h1 := M.mul_val_lt M.BB_pos d3 d4
    rw [X3.out, X4.out, ← X5.out] at h1
    have := M.pow_le M.BB_pos (show l3.length + l4.length ≤ half + 1 + (half + 1) by omega)
    omega
  have p1 : l1.length ≤ l5.length := M.length_of_le M.BB_pos d1 d5 m1 (by omega)
  have K1 := hide K
  clear K
  go_wp2_with fail
  have C := subDigits_calls w5 _ _ l5 l1 r5 (r1.below (b2.then_below (b3.then_below (b4.then_below b5)))) d5 d1 (by omega) p1 (by have := K1.out; omega)
  refine C.mono ?_
  clear C
  rintro e w6 ⟨⟨v6, l6, rfl, r6, f6, d6, m6, x6⟩, b6⟩
  have p2 : l2.length ≤ l6.length := M.length_of_le M.BB_pos d2 d6 m2 (by have := K1.out; omega)
  have n6 : l6.length ≤ half + 1 + (half + 1) := by
    have := M.length_of_le M.BB_pos d6 d5 m6 (by have := M.val_nonneg M.BB_pos d1; omega)
    omega
  have X6 := hide x6
  clear x6
  go_wp2_with fail
  have C := subDigits_calls w6 _ _ l6 l2 r6 (r2.below (b3.then_below (b4.then_below (b5.then_below b6)))) d6 d2 (by omega) p2 (by have := K1.out; have := X6.out; omega)
  refine C.mono ?_
  clear C
  rintro e w7 ⟨⟨v7, l7, rfl, r7, f7, d7, m7, x7⟩, b7⟩
  have r1' := r1.below (b2.then_below (b3.then_below (b4.then_below (b5.then_below (b6.then_below b7)))))
  have r2' := r2.below (b3.then_below (b4.then_below (b5.then_below (b6.then_below b7))))
  have bb7 := bV.then_below (bb5.then_below (b6.then_below b7))
  have X7 : Hid (M.val M.BB l1 + M.BB ^ (2 * half) * M.val M.BB l2 + M.BB ^ half * M.val M.BB l7 = M.val M.BB lx * M.val M.BB ly) := by
    show _ = _
    rw [x7, X6.out, X5.out, X1.out, X2.out, VX.out, VY.out]
    exact kara_eq _ _ _ _ _ _
  have n1 : l1.length ≤ 2 * half := by
    refine M.length_le_of_lt M.BB_pos d1 m1 ?_
    rw [X1.out]
    have h1 := M.mul_val_lt M.BB_pos dla dlb
    have := M.pow_le M.BB_pos (show la.length + lb.length ≤ 2 * half by omega)
    omega
  have n2 : l2.length ≤ ha.length + hb.length := by
    refine M.length_le_of_lt M.BB_pos d2 m2 ?_
    rw [X2.out]
    exact M.mul_val_lt M.BB_pos dha dhb
  have room := M.mul_val_lt M.BB_pos dx dy
  rw [← X7.out] at room
  have ROOM := hide room
  clear r1 r2 r5 r6 f1 f2 f5 f6 m1 m2 m5 m6 d5 d6 n5 n6 p1 p2 x7 b1 b2 b3 b4 b5 b6 b7 bb2 bb3 bb4 bb5 bV room n3 n4 d3 d4 m3 m4 QA QB
  have S0 : Hid (2 * half + (ha.length + hb.length) = lx.length + ly.length) := by
    show _ = _
    have h1 := HA.out
    have h2 := HB.out
    omega
  have s1 : 2 * half + (ha.length + hb.length) ≤ lx.length + ly.length := Nat.le_of_eq S0.out
  have s2 : lx.length + ly.length ≤ 2 * half + (ha.length + hb.length) := Nat.le_of_eq S0.out.symm
  have s3 : 0 < hb.length := by
    have := HB.out
    omega
  have n7 : half + l7.length ≤ lx.length + ly.length := by
    have hlt : M.val M.BB l7 < M.BB ^ (lx.length + ly.length - half) := by
      have h1 := ROOM.out
      have h2 := M.val_nonneg M.BB_pos d1
      have h3 := Int.mul_nonneg (Int.le_of_lt (M.pow_pos M.BB_pos (2 * half))) (M.val_nonneg M.BB_pos d2)
      have h4 : M.BB ^ half * M.val M.BB l7 < M.BB ^ half * M.BB ^ (lx.length + ly.length - half) := by
        rw [← Int.pow_add, show half + (lx.length + ly.length - half) = lx.length + ly.length by omega]
        omega
      exact Int.lt_of_mul_lt_mul_left h4 (Int.le_of_lt (M.pow_pos M.BB_pos half))
    have := M.length_le_of_lt M.BB_pos d7 m7 hlt
    omega
  clear S0
  go_wp2_with (first
    | (at_make; refine wpList_make_row _ rfl _ _ _ rfl .u64 _ 8 sliceU64 infoU64 .i64 .i64 _ _ (lx.length + ly.length) rfl rfl (by omega) (by omega) (by decide) (by omega) ?_; intro w8 z8 hz8 ho8 hg8 hs8; have l8 : lx.length + ly.length ≤ z8.length := by rw [hz8.out]; simp)
    | ((with_reducible refine is_copy ?_); refine at_copy .u64 87 sliceU64 sizeU64 w7.heap.size (2 * half) (lx.length + ly.length - 2 * half) (lx.length + ly.length - 2 * half) _ l2 z9 rfl rfl ((r2'.kept hg8 (by simp)).kept hg9 (by rintro g ⟨⟩; exact r2'.apart (Nat.le_refl _))) ho9 (by omega) (by omega) ?_; intro w10 z10 hz10 ho10 hg10)
    | ((with_reducible refine is_copy ?_); refine at_copy .u64 87 sliceU64 sizeU64 w7.heap.size 0 (lx.length + ly.length) (lx.length + ly.length) _ l1 z8 rfl rfl (r1'.kept hg8 (by simp)) ho8 (by omega) (by omega) ?_; intro w9 z9 hz9 ho9 hg9; have l9 : lx.length + ly.length ≤ z9.length := by rw [hz9.out, length_splice _ _ _ (by omega)]; exact l8)
    | (go_at_call 124; fail))
  have e10 : z10 = splice (splice (List.replicate (lx.length + ly.length) (0 : Int)) 0 l1) (2 * half) l2 := by rw [hz10.out, hz9.out, hz8.out]
  obtain ⟨l10, d10, x10⟩ := splice_two (lx.length + ly.length) (2 * half) l1 l2 d1 d2 n1 (by omega)
  rw [← e10] at l10 d10 x10
  have C := addAt_calls w10 w7.heap.size z10 v7 (lx.length + ly.length) half l7 ho10 d10 (((r7.kept hg8 (by simp)).kept hg9 (by rintro g ⟨⟩; exact r7.apart (Nat.le_refl _))).kept hg10 (by rintro g ⟨⟩; exact r7.apart (Nat.le_refl _))) d7 (by omega) (by omega) (r7.apart (Nat.le_refl _)) (by rw [x10, l10]; exact ROOM.out)
  rw [l10, x10, X7.out] at C
  refine C.mono ?_
  clear C
  rintro e w11 ⟨rfl, z11, ho11, d11, l11, x11, hg11⟩
  have r11 : Row .u64 w11 (.slice (some ⟨w7.heap.size, 0, none⟩) (lx.length + ly.length) (lx.length + ly.length)) z11 := by
    have := ho11.all (lx.length + ly.length) (by rw [l11]; omega) (by omega)
    rwa [l11] at this
  have X11 := hide x11
  have bf : Below w.heap.size w w11 := (((bb7.then_below (grown_below hg8)).then_grown hg9 (by rintro g ⟨⟩; exact bb7.size)).then_grown hg10 (by rintro g ⟨⟩; exact bb7.size)).then_grown hg11 (by rintro g ⟨⟩; exact bb7.size)
  clear x11 l11 l10 x10 d10 e10 l8 l9 hz8 hz9 hz10 hs8 hg8 hg9 hg10 hg11 ho8 ho9 ho10 r1' r2' r7
  go_wp2_with (go_at_call 120; refine (trim_calls _ _ z11 r11).mono ?_; rintro e w' ⟨⟨u, rfl, ru, fu⟩, rfl⟩)
  go_ret
  exact ⟨⟨u, M.trimmed z11, rfl, ru, (trim_fresh (own_fresh _ _ _) fu).mono bb7.size, M.trimmed_dig d11, M.trimmed_trm _, by rw [M.trimmed_val]; exact X11.out⟩, bf⟩
end Go.Proofs.YtlepicdpelkmlaaGreatDoor
