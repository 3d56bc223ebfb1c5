/- Laid together of: RatFloor, NumParse1, Floor. -/
import Derived.Test.YtnjghgkneolnoaaGreatDoorMulC
import Derived.Test.YtnjghgkneolnoaaGreatDoorMulE
import Derived.Test.YtnjghgkneolnoaaGreatDoorMulB
import Derived.Test.YtnjghgkneolnoaaGreatDoorRefG
import Derived.Test.YtnjghgkneolnoaaGreatDoorNumA
/- ==== RatFloor ==== -/
namespace Go.Proofs.YtnjghgkneolnoaaGreatDoor
open Go.RowKit
set_option linter.unusedVariables false
theorem cells5_keep {w W W2 : World} {a1 a2 a3 a4 a5 : Addr} {v1 v2 v3 v4 v5 : Value} (h : W.cell? a1 = some v1 ∧ W.cell? a2 = some v2 ∧ W.cell? a3 = some v3 ∧ W.cell? a4 = some v4 ∧ W.cell? a5 = some v5 ∧ Below w.heap.size w W) (b : Below W.heap.size W W2) :
    W2.cell? a1 = some v1 ∧ W2.cell? a2 = some v2 ∧ W2.cell? a3 = some v3 ∧ W2.cell? a4 = some v4 ∧ W2.cell? a5 = some v5 ∧ Below w.heap.size w W2 := by
  obtain ⟨h1, h2, h3, h4, h5, hb⟩ := h
  exact ⟨by rw [b.cell (World.block_lt_of_cell? W _ h1)]; exact h1, by rw [b.cell (World.block_lt_of_cell? W _ h2)]; exact h2, by rw [b.cell (World.block_lt_of_cell? W _ h3)]; exact h3, by rw [b.cell (World.block_lt_of_cell? W _ h4)]; exact h4, by rw [b.cell (World.block_lt_of_cell? W _ h5)]; exact h5, hb.then_below b⟩
/-- The size of the greatest whole number that is not above. -/
def flN (s : Bool) (n D : Nat) : Nat := if s = true ∧ n % D ≠ 0 then n / D + 1 else n / D
set_option maxRecDepth 100000 in
set_option maxHeartbeats 16000000 in
theorem pfloor_calls (w : World) (v : Value) (s : Bool) (n d K : Nat) (h : DenR w v s n d) (kn : (n : Int) < M.BB ^ K) (hK : K + 1 ≤ 4398046511104) :
    Calls Tryz.prog 63 #[v] w fun e w' => (∃ r, e = .returned r ∧ DenR w' r (s && !decide (flN s n (lowN d) = 0)) (flN s n (lowN d)) 0) ∧ Below w.heap.size w w' := by
  obtain ⟨F, hF⟩ : ∃ F, Hid (flN s n (lowN d) = F) := ⟨_, rfl⟩
  rw [hF.out]
  obtain ⟨SB, hSB⟩ : ∃ SB : Bool, Hid ((s && !decide (F = 0)) = SB) := ⟨_, rfl⟩
  rw [hSB.out]
  have h' := hide h
  obtain ⟨x1, x2, x3, x4, y1, y2, y3, y4, rfl, a1, a2⟩ := h
  obtain ⟨X1, Y1, -⟩ := two_new w (.cells #[.bool s, .int .u64 x1, .slice x2 x3 x4, .int .u64 y1, .slice y2 y3 y4] 49) (.cells #[.bool false, .int .u64 0, .slice none 0 0, .int .u64 0, .slice none 0 0] 49)
  have B0 := alloc2_below w (.cells #[.bool s, .int .u64 x1, .slice x2 x3 x4, .int .u64 y1, .slice y2 y3 y4] 49) (.cells #[.bool false, .int .u64 0, .slice none 0 0, .int .u64 0, .slice none 0 0] 49)
  obtain ⟨W0, hW0⟩ : ∃ W0, (w.alloc (.cells #[.bool s, .int .u64 x1, .slice x2 x3 x4, .int .u64 y1, .slice y2 y3 y4] 49)).alloc (.cells #[.bool false, .int .u64 0, .slice none 0 0, .int .u64 0, .slice none 0 0] 49) = W0 := ⟨_, rfl⟩
  rw [hW0] at X1 Y1 B0
  have HA := hide (h'.out.below B0)
  have A1 := hide (a1.below B0)
  have hD0 : Hid (lowN d ≠ 0) := Nat.ne_of_gt (lowN_pos d)
  replace kn := hide kn
  have hKK : K ≤ 4398046511104 := by omega
  obtain ⟨⟨i0, i1, i2, i3, i4⟩, -⟩ := ratBox X1
  have S0 := hide (And.intro i0 (And.intro i1 (And.intro i2 (And.intro i3 (And.intro i4 (Below.refl W0.heap.size W0))))))
  clear i0 i1 i2 i3 i4 h' a1 a2
  replace X1 := hide X1
  replace Y1 := hide Y1
  replace B0 := hide B0
  go_enter Tryz.func63, Tryz.ntmps63
  go_upto_region 1 with fail
  go_cut [3, 4] (fun sx sy wx => ∃ (gx gy : Nat) (q1 : Int) (q2 : Option Addr) (q3 q4 : Nat) (r1 : Int) (r2 : Option Addr) (r3 r4 : Nat), sx = .pointer (some ⟨gx, 0, none⟩) ∧ sy = .pointer (some ⟨gy, 0, none⟩) ∧ Hid (TwoB W0 wx gx gy q1 q2 q3 q4 r1 r2 r3 r4 (n / lowN d) (n % lowN d)))
  case first =>
    go_region_held3
      (fun w' => w'.cell? ⟨w.heap.size, 0, none⟩ = some (.bool s) ∧ w'.cell? ⟨w.heap.size, 1, none⟩ = some (.int .u64 x1) ∧ w'.cell? ⟨w.heap.size, 2, none⟩ = some (.slice x2 x3 x4) ∧ w'.cell? ⟨w.heap.size, 3, none⟩ = some (.int .u64 y1) ∧ w'.cell? ⟨w.heap.size, 4, none⟩ = some (.slice y2 y3 y4) ∧ Below W0.heap.size W0 w')
      ((refine cells5_keep (w := W0) S0.out ?_; repeat (first | with_reducible exact Below.refl _ _ | with_reducible refine Below.drew ?_ | with_reducible refine Below.then_below ?_ (alloc_below _ _) | with_reducible refine Below.then_below ?_ ba | with_reducible refine Below.then_below ?_ bb | (with_reducible refine Below.then_grown ?_ (box_grown _ _ _ _) (by rintro g ⟨⟩; first | exact Nat.le_refl _ | omega)))))
      (first
        | (go_at_call_of 89 (Value.agg #[.bool s, .int .u64 x1, .slice x2 x3 x4, .int .u64 y1, .slice y2 y3 y4]); refine (lower_low _ _ s n d (HA.out.below (by repeat (first | with_reducible exact Below.refl _ _ | with_reducible refine Below.drew ?_ | with_reducible refine Below.then_below ?_ (alloc_below _ _))))).mono ?_; rintro e wa ⟨⟨ra, rfl, da⟩, ba⟩; have Ba : Below W0.heap.size W0 wa := (by repeat (first | with_reducible exact Below.refl _ _ | with_reducible refine Below.drew ?_ | with_reducible refine Below.then_below ?_ (alloc_below _ _) | with_reducible refine Below.then_below ?_ ba)); have sa : W0.heap.size ≤ wa.heap.size := Ba.size; (first | (have AZa0 : wa.heap[W0.heap.size]? = some (.cells #[.int .u64 0, .slice none 0 0] 46 (0, 0)) := kept_block (by first | exact heap_alloc_new W0 (.cells #[.int .u64 0, .slice none 0 0] 46) | exact (two_new W0 (.cells #[.int .u64 0, .slice none 0 0] 46) (.cells #[.int .u64 0, .slice none 0 0] 46)).1) ba; have lz0 : W0.heap.size < wa.heap.size := (Array.getElem?_eq_some_iff.1 AZa0).1) | skip); (first | (have AZa1 : wa.heap[W0.heap.size + 1]? = some (.cells #[.int .u64 0, .slice none 0 0] 46 (0, 0)) := kept_block (by exact (two_new W0 (.cells #[.int .u64 0, .slice none 0 0] 46) (.cells #[.int .u64 0, .slice none 0 0] 46)).2.1) ba; have lz1 : W0.heap.size + 1 < wa.heap.size := (Array.getElem?_eq_some_iff.1 AZa1).1) | skip))
        | (go_at_call_of 97 (Value.agg #[.int .u64 x1, .slice x2 x3 x4]); refine (divMod_calls _ _ _ n (lowN d) K (A1.out.below (by repeat (first | with_reducible exact Below.refl _ _ | with_reducible refine Below.drew ?_ | with_reducible refine Below.then_below ?_ (alloc_below _ _) | with_reducible refine Below.then_below ?_ ba))) (da.below (by repeat (first | with_reducible exact Below.refl _ _ | with_reducible refine Below.drew ?_ | with_reducible refine Below.then_below ?_ (alloc_below _ _)))) kn.out hD0.out hKK).mono ?_; rintro e wb ⟨⟨qq, rr, rfl, dq, db⟩, bb⟩; obtain ⟨u1, u2, u3, u4, rfl⟩ := dq.shape2; obtain ⟨v1, v2, v3, v4, rfl⟩ := db.shape2; have BAB : Below wa.heap.size wa wb := (by repeat (first | with_reducible exact Below.refl _ _ | with_reducible refine Below.drew ?_ | with_reducible refine Below.then_below ?_ (alloc_below _ _) | with_reducible refine Below.then_below ?_ bb)); have bw : Below W0.heap.size W0 wb := Ba.then_below BAB; have sb : wa.heap.size ≤ wb.heap.size := BAB.size; (first | (have AZ0 : wb.heap[W0.heap.size]? = some (.cells #[.int .u64 0, .slice none 0 0] 46 (0, 0)) := kept_block AZa0 BAB; obtain ⟨ta0, ta1, taf0, taf1⟩ := box_facts AZ0; have lAZ0 : W0.heap.size < wb.heap.size := (Array.getElem?_eq_some_iff.1 AZ0).1; have nAZ0 : W0.heap.size ≠ wb.heap.size := Nat.ne_of_lt lAZ0; have mAZ0 : wb.heap.size ≠ W0.heap.size := Nat.ne_of_gt lAZ0) | skip); (first | (have AZ1 : wb.heap[W0.heap.size + 1]? = some (.cells #[.int .u64 0, .slice none 0 0] 46 (0, 0)) := kept_block AZa1 BAB; obtain ⟨tb0, tb1, tbf0, tbf1⟩ := box_facts AZ1; have lAZ1 : W0.heap.size + 1 < wb.heap.size := (Array.getElem?_eq_some_iff.1 AZ1).1; have nAZ1 : W0.heap.size + 1 ≠ wb.heap.size := Nat.ne_of_lt lAZ1; have mAZ1 : wb.heap.size ≠ W0.heap.size + 1 := Nat.ne_of_gt lAZ1) | skip); (first | (have AY0 : wb.heap[wa.heap.size]? = some (.cells #[.int .u64 0, .slice none 0 0] 46 (0, 0)) := kept_block (by first | exact heap_alloc_new wa (.cells #[.int .u64 0, .slice none 0 0] 46) | exact (two_new wa (.cells #[.int .u64 0, .slice none 0 0] 46) (.cells #[.int .u64 0, .slice none 0 0] 46)).1) bb; obtain ⟨tc0, tc1, tcf0, tcf1⟩ := box_facts AY0; have lAY0 : wa.heap.size < wb.heap.size := (Array.getElem?_eq_some_iff.1 AY0).1; have nAY0 : wa.heap.size ≠ wb.heap.size := Nat.ne_of_lt lAY0; have mAY0 : wb.heap.size ≠ wa.heap.size := Nat.ne_of_gt lAY0) | skip); (first | (have AY1 : wb.heap[wa.heap.size + 1]? = some (.cells #[.int .u64 0, .slice none 0 0] 46 (0, 0)) := kept_block (by exact (two_new wa (.cells #[.int .u64 0, .slice none 0 0] 46) (.cells #[.int .u64 0, .slice none 0 0] 46)).2.1) bb; obtain ⟨td0, td1, tdf0, tdf1⟩ := box_facts AY1; have lAY1 : wa.heap.size + 1 < wb.heap.size := (Array.getElem?_eq_some_iff.1 AY1).1; have nAY1 : wa.heap.size + 1 ≠ wb.heap.size := Nat.ne_of_lt lAY1; have mAY1 : wb.heap.size ≠ wa.heap.size + 1 := Nat.ne_of_gt lAY1) | skip); (first | (have nl : W0.heap.size ≠ wa.heap.size := Nat.ne_of_lt lz0; have ml : wa.heap.size ≠ W0.heap.size := Nat.ne_of_gt lz0) | skip)))
    all_goals (go_wp2_with fail; go_meet)
    all_goals first
      | with_reducible exact ⟨_, _, u1, u2, u3, u4, v1, v2, v3, v4, rfl, rfl, hide (tb_alloc bw dq db)⟩
      | with_reducible exact ⟨_, _, u1, u2, u3, u4, v1, v2, v3, v4, rfl, rfl, hide ((tb_alloc bw db dq).swap)⟩
      | with_reducible exact ⟨_, _, u1, u2, u3, u4, v1, v2, v3, v4, rfl, rfl, hide (tb_set_alloc bw dq db AZ0 (by omega))⟩
      | with_reducible exact ⟨_, _, u1, u2, u3, u4, v1, v2, v3, v4, rfl, rfl, hide ((tb_set_alloc bw db dq AZ0 (by omega)).swap)⟩
      | with_reducible exact ⟨_, _, u1, u2, u3, u4, v1, v2, v3, v4, rfl, rfl, hide (tb_set_alloc bw dq db AY0 (by omega))⟩
      | with_reducible exact ⟨_, _, u1, u2, u3, u4, v1, v2, v3, v4, rfl, rfl, hide ((tb_set_alloc bw db dq AY0 (by omega)).swap)⟩
      | with_reducible exact ⟨_, _, u1, u2, u3, u4, v1, v2, v3, v4, rfl, rfl, hide (tb_set_set bw dq db AZ0 AZ1 (by omega) (by omega) (by omega))⟩
      | with_reducible exact ⟨_, _, u1, u2, u3, u4, v1, v2, v3, v4, rfl, rfl, hide ((tb_set_set bw db dq AZ1 AZ0 (by omega) (by omega) (by omega)).swap)⟩
      | with_reducible exact ⟨_, _, u1, u2, u3, u4, v1, v2, v3, v4, rfl, rfl, hide (tb_set_set bw dq db AZ1 AZ0 (by omega) (by omega) (by omega))⟩
      | with_reducible exact ⟨_, _, u1, u2, u3, u4, v1, v2, v3, v4, rfl, rfl, hide ((tb_set_set bw db dq AZ0 AZ1 (by omega) (by omega) (by omega)).swap)⟩
      | with_reducible exact ⟨_, _, u1, u2, u3, u4, v1, v2, v3, v4, rfl, rfl, hide (tb_set_set bw dq db AZ0 AY0 (by omega) (by omega) (by omega))⟩
      | with_reducible exact ⟨_, _, u1, u2, u3, u4, v1, v2, v3, v4, rfl, rfl, hide ((tb_set_set bw db dq AY0 AZ0 (by omega) (by omega) (by omega)).swap)⟩
      | with_reducible exact ⟨_, _, u1, u2, u3, u4, v1, v2, v3, v4, rfl, rfl, hide (tb_set_set bw dq db AY0 AZ0 (by omega) (by omega) (by omega))⟩
      | with_reducible exact ⟨_, _, u1, u2, u3, u4, v1, v2, v3, v4, rfl, rfl, hide ((tb_set_set bw db dq AZ0 AY0 (by omega) (by omega) (by omega)).swap)⟩
      | with_reducible exact ⟨_, _, u1, u2, u3, u4, v1, v2, v3, v4, rfl, rfl, hide (tb_set_set bw dq db AY0 AY1 (by omega) (by omega) (by omega))⟩
      | with_reducible exact ⟨_, _, u1, u2, u3, u4, v1, v2, v3, v4, rfl, rfl, hide ((tb_set_set bw db dq AY1 AY0 (by omega) (by omega) (by omega)).swap)⟩
      | with_reducible exact ⟨_, _, u1, u2, u3, u4, v1, v2, v3, v4, rfl, rfl, hide (tb_set_set bw dq db AY1 AY0 (by omega) (by omega) (by omega))⟩
      | with_reducible exact ⟨_, _, u1, u2, u3, u4, v1, v2, v3, v4, rfl, rfl, hide ((tb_set_set bw db dq AY0 AY1 (by omega) (by omega) (by omega)).swap)⟩
  case rest =>
  obtain ⟨g3, g4, u1, u2, u3, u4, v1, v2, v3, v4, rfl, rfl, T⟩ := hcut
  obtain ⟨p3, p4, hu, hv, l3, l4, B1⟩ := T.out
  clear T S0 HA hW0
  rename World => W1
  have BW := hide (B0.out.then_below B1)
  have X2 := hide (kept_block X1.out B1)
  have Y2 := hide (kept_block Y1.out B1)
  have U := hide hu
  have V := hide hv
  have lr : w.heap.size + 1 < W0.heap.size := (Array.getElem?_eq_some_iff.1 Y1.out).1
  have n3 : Hid (g3 ≠ w.heap.size + 1) := by show g3 ≠ _; omega
  have n3' : g3 ≠ w.heap.size := by omega
  obtain ⟨⟨i0, i1, i2, i3, i4⟩, -⟩ := ratBox X2.out
  obtain ⟨c0, c1, cf0, cf1⟩ := box_facts p3
  obtain ⟨c2, c3, -, -⟩ := box_facts p4
  have P3 := hide p3
  have P4 := hide p4
  have kq : Hid (((n / lowN d : Nat) : Int) < M.BB ^ (K + 1)) := Int.lt_of_lt_of_le (div_BB kn.out) (M.pow_le M.BB_pos (by omega))
  have k1 : Hid (((1 : Nat) : Int) < M.BB ^ (K + 1)) := by
    show ((1 : Nat) : Int) < _
    have h1 : M.BB ^ 1 ≤ M.BB ^ (K + 1) := M.pow_le M.BB_pos (by omega)
    have h2 : M.BB ^ 1 = 18446744073709551616 := by rw [Int.pow_one]; rfl
    omega
  clear p3 p4 hu hv B1 X1 Y1 A1 lr
  cases s with
  | false =>
    have eF : Hid (F = n / lowN d) := by show F = _; rw [← hF.out]; unfold flN; rw [if_neg (by simp)]
    go_wp2_with (go_at_call 88; refine (whole_calls _ false _ (n / lowN d) U.out).mono ?_; rintro e wd ⟨⟨rd, rfl, md⟩, bd⟩; rw [← eF.out, hSB.out] at md; obtain ⟨e1, e2, e3, e4, h1', h2', h3', h4', rfl, m1, m2⟩ := md; have R2 := hide (kept_block Y2.out (bd)); obtain ⟨⟨w0', w1', w2', w3', w4'⟩, f0, f1, f2, f3, f4⟩ := ratBox R2.out; replace m1 := hide m1; replace m2 := hide m2; replace bd := hide (bd))
    refine bodyPost_ret (v := .agg #[.bool SB, .int .u64 e1, .slice e2 e3 e4, .int .u64 h1', .slice h2' h3' h4']) (by simp [results, Tryz.results63, go_sem, w0', w1', w2', w3', w4']) rfl ?_
    have q := set5 wd (w.heap.size + 1) (.bool SB) (.int .u64 e1) (.slice e2 e3 e4) (.int .u64 h1') (.slice h2' h3' h4')
    exact ⟨⟨_, rfl, DenR.make m1.out m2.out R2.out (nopair5 _ _ _ _ _ _ _ _ _) q⟩, (BW.out.then_below bd.out).then_grown q (by rintro g ⟨⟩; omega)⟩
  | true =>
    by_cases hz : n % lowN d = 0
    · have eF : Hid (F = n / lowN d) := by show F = _; rw [← hF.out]; unfold flN; rw [if_neg (by simp [hz])]
      have qz := hide (isZero_calls W1 _ (n % lowN d) V.out)
      rw [decide_eq_true hz] at qz
      clear hz
      go_wp2_with (first
        | (go_at_call 36; refine qz.out.mono ?_; rintro e wz ⟨rfl, bz⟩; obtain ⟨⟨j0, j1, j2, j3, j4⟩, -⟩ := ratBox (kept_block X2.out bz); obtain ⟨d0, d1, -, -⟩ := box_facts (kept_block P3.out bz); replace bz := hide bz)
        | (go_at_call 88; refine (whole_calls _ true _ (n / lowN d) (U.out.below bz.out)).mono ?_; rintro e wd ⟨⟨rd, rfl, md⟩, bd⟩; rw [← eF.out, hSB.out] at md; obtain ⟨e1, e2, e3, e4, h1', h2', h3', h4', rfl, m1, m2⟩ := md; have R2 := hide (kept_block Y2.out (bz.out.then_below bd)); obtain ⟨⟨w0', w1', w2', w3', w4'⟩, f0, f1, f2, f3, f4⟩ := ratBox R2.out; replace m1 := hide m1; replace m2 := hide m2; replace bd := hide (bz.out.then_below bd)))
      refine bodyPost_ret (v := .agg #[.bool SB, .int .u64 e1, .slice e2 e3 e4, .int .u64 h1', .slice h2' h3' h4']) (by simp [results, Tryz.results63, go_sem, w0', w1', w2', w3', w4']) rfl ?_
      have q := set5 wd (w.heap.size + 1) (.bool SB) (.int .u64 e1) (.slice e2 e3 e4) (.int .u64 h1') (.slice h2' h3' h4')
      exact ⟨⟨_, rfl, DenR.make m1.out m2.out R2.out (nopair5 _ _ _ _ _ _ _ _ _) q⟩, (BW.out.then_below bd.out).then_grown q (by rintro g ⟨⟩; omega)⟩
    · have eF : Hid (F = n / lowN d + 1) := by show F = _; rw [← hF.out]; unfold flN; rw [if_pos ⟨rfl, hz⟩]
      have qz := hide (isZero_calls W1 _ (n % lowN d) V.out)
      rw [decide_eq_false hz] at qz
      clear hz
      go_upto_region 3 with (go_at_call 36; refine qz.out.mono ?_; rintro e wz ⟨rfl, bz⟩; replace bz := hide bz)
      have BW2 := hide (BW.out.then_below bz.out)
      have X3 := hide (kept_block X2.out bz.out)
      have Y3 := hide (kept_block Y2.out bz.out)
      have P5 := hide (kept_block P3.out bz.out)
      have U2 := hide (U.out.below bz.out)
      obtain ⟨d0, d1, df0, df1⟩ := box_facts P5.out
      clear c0 c1 c2 c3 cf0 cf1 i0 i1 i2 i3 i4 BW X2 Y2 P3 P4 U V bz qz
      go_region_with (first
        | (go_at_call 43; refine (word_calls _ 1 (by decide)).mono ?_; rintro e wp ⟨rfl, bp⟩; obtain ⟨k0, k1', kf0, kf1⟩ := box_facts (kept_block P5.out ((Below.refl _ _).drew.then_below bp)))
        | (go_at_call 98; refine (natAdd_calls _ _ _ (n / lowN d) 1 (K + 1) (U2.out.below ((Below.refl _ _).drew.then_below bp)) (den_word _ 1 (by decide)) kq.out k1.out hK).mono ?_; rintro e wq ⟨⟨vq, rfl, mq⟩, bq⟩; obtain ⟨t1, t2, t3, t4, rfl⟩ := mq.shape2; have bz2 : Below wz.heap.size wz wq := ((Below.refl _ _).drew.then_below bp).then_below bq; have Q5 := hide (kept_block P5.out bz2); obtain ⟨o0, o1, of0, of1⟩ := box_facts Q5.out))
      all_goals (
        have qs := box_grown wq g3 (.int .u64 t1) (.slice t2 t3 t4)
        have P6 := hide (box_store Q5.out (.int .u64 t1) (.slice t2 t3 t4))
        have M6 := hide (mq.kept qs (mq.notin (nopair2 _ _ _ _) Q5.out))
        have X4 := hide (grown_block (kept_block X3.out bz2) qs (Ne.symm n3'))
        have Y2 := hide (grown_block (kept_block Y3.out bz2) qs (Ne.symm n3.out))
        have BW := hide ((BW2.out.then_below bz2).then_grown qs (by rintro g ⟨⟩; have := B0.out.size; omega))
        clear BW2 X3 Y3 P5 U2 bp bq bz2 Q5 mq qs
        generalize ((wq.setCell ⟨g3, 0, none⟩ (.int .u64 t1)).setCell ⟨g3, 1, none⟩ (.slice t2 t3 t4)) = W5 at *
        obtain ⟨⟨i0, i1, i2, i3, i4⟩, -⟩ := ratBox X4.out
        obtain ⟨c0, c1, -, -⟩ := box_facts P6.out)
      all_goals (go_wp2_with (go_at_call 88; refine (whole_calls _ true _ (n / lowN d + 1) M6.out).mono ?_; rintro e wd ⟨⟨rd, rfl, md⟩, bd⟩; rw [← eF.out, hSB.out] at md; obtain ⟨e1, e2, e3, e4, h1', h2', h3', h4', rfl, m1, m2⟩ := md; have R2 := hide (kept_block Y2.out (bd)); obtain ⟨⟨w0', w1', w2', w3', w4'⟩, f0, f1, f2, f3, f4⟩ := ratBox R2.out; replace m1 := hide m1; replace m2 := hide m2; replace bd := hide (bd)))
      all_goals (
        refine bodyPost_ret (v := .agg #[.bool SB, .int .u64 e1, .slice e2 e3 e4, .int .u64 h1', .slice h2' h3' h4']) (by simp [results, Tryz.results63, go_sem, w0', w1', w2', w3', w4']) rfl ?_
        have q := set5 wd (w.heap.size + 1) (.bool SB) (.int .u64 e1) (.slice e2 e3 e4) (.int .u64 h1') (.slice h2' h3' h4')
        exact ⟨⟨_, rfl, DenR.make m1.out m2.out R2.out (nopair5 _ _ _ _ _ _ _ _ _) q⟩, (BW.out.then_below bd.out).then_grown q (by rintro g ⟨⟩; omega)⟩)
end Go.Proofs.YtnjghgkneolnoaaGreatDoor
/- ==== NumParse1 ==== -/
namespace Go.Proofs.YtnjghgkneolnoaaGreatDoor
open Go.RowKit
set_option linter.unusedVariables false
theorem run_make_one (w : World) : (Instr.makeSlice 68 (.int .i64 1) (.int .i64 1)).run Tryz.prog w = .ok (.slice (some ⟨w.heap.size, 0, none⟩) 1 1) (w.alloc (.cells #[.bool false, .int .u64 0, .slice none 0 0, .int .u64 0, .slice none 0 0] 49)) := by
  obtain ⟨i, hi, hz0, hz1, hz2⟩ := info_parts infoRat
  have hrun := run_make (P := Tryz.prog) w 68 49 i (.agg #[.bool false, .int .u64 0, .slice none 0 0, .int .u64 0, .slice none 0 0]) sliceRat hi hz0 .i64 .i64 1 1 (by omega) (Int.le_refl _) (by rw [hz2]; decide) (by decide)
  rw [hz1] at hrun
  refine hrun.trans ?_
  kernel_rfl
def OneS (w wr : World) (la : List UInt8) : Prop := ∃ (b1 : Bool) (x1 : Int) (x2 : Option Addr) (x3 x4 : Nat) (y1 : Int) (y2 : Option Addr) (y3 y4 : Nat), wr.heap[w.heap.size]? = some (.cells #[.bool b1, .int .u64 x1, .slice x2 x3 x4, .int .u64 y1, .slice y2 y3 y4] 49 (0, 0)) ∧ DenR wr (.agg #[.bool b1, .int .u64 x1, .slice x2 x3 x4, .int .u64 y1, .slice y2 y3 y4]) (cneg la) (M.dec (cup la)) (if cslash la then M.dec (clow la) else 0) ∧ Below w.heap.size w wr
set_option maxRecDepth 100000 in
set_option maxHeartbeats 4000000 in
theorem parse_single (w : World) (sa : ByteArray) (la : List UInt8) (ha : sa.data.toList = la) (hla : la.length ≤ 1073741824) (g cap : Nat) (hc0 : w.cell? ⟨g, 0, none⟩ = some (.string sa))
    (m : Int) (hM : w.cell? ⟨0, 0, none⟩ = some (.int .i64 m)) (hT : Tab w) (ka : Bool) (hka : ka = true ↔ CanT la) :
    Calls Tryz.prog 50 #[.slice (some ⟨g, 0, none⟩) 1 cap] w fun e w' => ((ka = true → e = .returned (.tuple #[.slice (some ⟨w.heap.size, 0, none⟩) 1 1, .bool true]) ∧ OneS w w' la) ∧ (ka = false → e = .returned (.tuple #[.slice none 0 0, .bool false]))) ∧ Below w.heap.size w w' := by
  have mk := run_make_one w
  obtain ⟨W0, hW0⟩ : ∃ W0, w.alloc (.cells #[.bool false, .int .u64 0, .slice none 0 0, .int .u64 0, .slice none 0 0] 49) = W0 := ⟨_, rfl⟩
  rw [hW0] at mk
  have A0 : Hid (W0.heap[w.heap.size]? = some (.cells #[.bool false, .int .u64 0, .slice none 0 0, .int .u64 0, .slice none 0 0] 49 (0, 0))) := by rw [← hW0]; exact heap_alloc_new w _
  have B0 : Hid (Below w.heap.size w W0) := by rw [← hW0]; exact alloc_below w _
  clear hW0
  have q1 := hide (fun W (b : Below w.heap.size w W) => parse_one W sa la ha hla m (by rw [b.cell (World.block_lt_of_cell? w _ hM)]; exact hM) (hT.below b) ka hka)
  have c0 := hide (fun W (b : Below w.heap.size w W) => (show W.cell? ⟨g, 0, none⟩ = some (.string sa) by rw [b.cell (World.block_lt_of_cell? w _ hc0)]; exact hc0))
  replace hka := hide hka
  clear hc0 hM hT ha
  go_enter Tryz.func50, Tryz.ntmps50
  go_wp2
  go_loopw [14] (fun i wr => (i = .int .i64 0 ∧ wr = W0) ∨ (i = .int .i64 1 ∧ ka = true ∧ Hid (OneS w wr la))) (fun i _ => 1 - (intOf i).toNat)
  case atStart => exact .inl ⟨rfl, rfl⟩
  case round =>
    rcases hrel with ⟨rfl, hw⟩ | ⟨rfl, hka1, h2⟩
    · replace hw := hw.symm
      subst hw
      have e0 := c0.out W0 B0.out
      cases ka with
      | false =>
        go_wp2_with (go_at_call 90; refine (q1.out W0 B0.out).mono ?_; rintro e wa ⟨⟨b1, x1, x2, x3, x4, y1, y2, y3, y4, rfl, h1⟩, ba⟩; replace h1 := hide h1; replace ba := hide ba)
        go_ret2
        exact ⟨rfl, (B0.out.then_below ba.out).then_below (alloc_below wa _)⟩
      | true =>
        go_wp2_with (go_at_call 90; refine (q1.out W0 B0.out).mono ?_; rintro e wa ⟨⟨b1, x1, x2, x3, x4, y1, y2, y3, y4, rfl, h1⟩, ba⟩; have A1 := hide (kept_block (kept_block A0.out ba) (alloc_below wa (.cells #[.bool b1, .int .u64 x1, .slice x2 x3 x4, .int .u64 y1, .slice y2 y3 y4] 49))); obtain ⟨⟨z0, z1, z2, z3, z4⟩, f0, f1, f2, f3, f4⟩ := ratBox A1.out; replace h1 := hide ((h1 (hka.out.1 rfl)).below (alloc_below wa (.cells #[.bool b1, .int .u64 x1, .slice x2 x3 x4, .int .u64 y1, .slice y2 y3 y4] 49))); replace ba := hide ((B0.out.then_below ba).then_below (alloc_below wa (.cells #[.bool b1, .int .u64 x1, .slice x2 x3 x4, .int .u64 y1, .slice y2 y3 y4] 49))))
        refine ⟨.inr ⟨rfl, trivial, ?_⟩, by decide⟩
        have q := set5 (wa.alloc (.cells #[.bool b1, .int .u64 x1, .slice x2 x3 x4, .int .u64 y1, .slice y2 y3 y4] 49)) w.heap.size (.bool b1) (.int .u64 x1) (.slice x2 x3 x4) (.int .u64 y1) (.slice y2 y3 y4)
        exact ⟨b1, x1, x2, x3, x4, y1, y2, y3, y4, lo5 A1.out _ _ _ _ _, h1.out.keep A1.out (nopair5 _ _ _ _ _ _ _ _ _) q, ba.out.then_grown q (by rintro g ⟨⟩; exact Nat.le_refl _)⟩
    · subst hka1
      have hB : Hid (Below w.heap.size w wr) := by
        obtain ⟨b1, x1, x2, x3, x4, y1, y2, y3, y4, -, -, h⟩ := h2.out
        exact h
      go_wp2
      go_ret2
      exact ⟨⟨rfl, h2.out⟩, hB.out⟩
end Go.Proofs.YtnjghgkneolnoaaGreatDoor
/- ==== Floor ==== -/
namespace Go.Proofs.YtnjghgkneolnoaaGreatDoor
open Go.RowKit
set_option linter.unusedVariables false
/-- What Floor answers. -/
def floorT (la : List UInt8) : List UInt8 × Int := if canB la then (ratText (cneg la && !decide (flN (cneg la) (M.dec (cup la)) (M.dec (clow la)) = 0)) (flN (cneg la) (M.dec (cup la)) (M.dec (clow la))) 0, 0) else ([], 1)
theorem floorT_no {la : List UInt8} (h : canB la = false) : floorT la = ([], 1) := by unfold floorT; rw [h]; rfl
theorem floorT_yes {la : List UInt8} (h : CanT la) : floorT la = (ratText (cneg la && !decide (flN (cneg la) (M.dec (cup la)) (M.dec (clow la)) = 0)) (flN (cneg la) (M.dec (cup la)) (M.dec (clow la))) 0, 0) := by unfold floorT; rw [(canB_iff la).2 h]; rfl
theorem flN_le (s : Bool) (n D : Nat) : flN s n D ≤ n + 1 := by
  unfold flN
  have := Nat.div_le_self n D
  split <;> omega
set_option maxRecDepth 100000 in
set_option maxHeartbeats 4000000 in
theorem rbelow_calls (w : World) (v : Value) (s : Bool) (n d K : Nat) (h : RR w v s n d) (hd : 0 < d) (kn : (n : Int) < M.NB ^ K) (kd : (d : Int) < M.NB ^ K) (hK : K + 1 ≤ 17592186044) (hK1 : 1 ≤ K) :
    Calls Tryz.prog 65 #[v] w fun e w' => (∃ r, e = .returned r ∧ RR w' r (s && !decide (flN s n d = 0)) (flN s n d) 1) ∧ Below w.heap.size w w' := by
  obtain ⟨F, hF⟩ : ∃ F, Hid (flN s n d = F) := ⟨_, rfl⟩
  rw [hF.out]
  obtain ⟨na, nl, nc, da, dl, dc, rfl, h1, h2⟩ := h
  obtain ⟨X1, Y1, -⟩ := two_new w (.cells #[.bool s, .slice na nl nc, .slice da dl dc] 56) (.cells #[.bool false, .slice none 0 0, .slice none 0 0] 56)
  have B0 := alloc2_below w (.cells #[.bool s, .slice na nl nc, .slice da dl dc] 56) (.cells #[.bool false, .slice none 0 0, .slice none 0 0] 56)
  obtain ⟨W0, hW0⟩ : ∃ W0, (w.alloc (.cells #[.bool s, .slice na nl nc, .slice da dl dc] 56)).alloc (.cells #[.bool false, .slice none 0 0, .slice none 0 0] 56) = W0 := ⟨_, rfl⟩
  rw [hW0] at X1 Y1 B0
  have q1 := hide (rdiv_calls W0 _ _ n d K (h1.below B0) (h2.below B0) hd kn kd (by omega) (by omega))
  have qI := hide (fun W => natInt_calls W 1 (by decide) (by decide))
  have kq : Hid (((n / d : Nat) : Int) < M.NB ^ K) := Int.lt_of_le_of_lt (by exact_mod_cast Nat.div_le_self n d) kn
  have k1 : Hid (((1 : Nat) : Int) < M.NB ^ K) := by
    show ((1 : Nat) : Int) < _
    have h1 : M.NB ^ 1 ≤ M.NB ^ K := M.pow_le M.NB_pos hK1
    have h2 : M.NB ^ 1 = 1000000000 := by rw [M.NB_eq]; decide
    omega
  obtain ⟨x0, x1, x2, -, -, -⟩ := box3 X1
  replace X1 := hide X1
  replace Y1 := hide Y1
  replace B0 := hide B0
  clear h1 h2 kn kd hd
  have fin : Hid (∀ (W : World) (x : Bool) (qa : Option Addr) (ql qc : Nat) (ea : Option Addr) (el ec : Nat), Below W0.heap.size W0 W → RN W (.slice qa ql qc) F → RN W (.slice ea el ec) 1 →
      RR (((W.setCell ⟨w.heap.size + 1, 0, none⟩ (.bool x)).setCell ⟨w.heap.size + 1, 1, none⟩ (.slice qa ql qc)).setCell ⟨w.heap.size + 1, 2, none⟩ (.slice ea el ec)) (.agg #[.bool x, .slice qa ql qc, .slice ea el ec]) x F 1 ∧ Below w.heap.size w (((W.setCell ⟨w.heap.size + 1, 0, none⟩ (.bool x)).setCell ⟨w.heap.size + 1, 1, none⟩ (.slice qa ql qc)).setCell ⟨w.heap.size + 1, 2, none⟩ (.slice ea el ec))) := by
    intro W x qa ql qc ea el ec hW hq he
    have q := set3 W (w.heap.size + 1) (.bool x) (.slice qa ql qc) (.slice ea el ec)
    have Y2 := kept_block Y1.out hW
    exact ⟨⟨qa, ql, qc, ea, el, ec, rfl, hq.past Y2 q, he.past Y2 q⟩, (B0.out.then_below hW).then_grown q (by rintro g ⟨⟩; omega)⟩
  cases s with
  | false =>
    have eF : Hid (n / d = F) := by show _ = F; rw [← hF.out]; unfold flN; rw [if_neg (by simp)]
    rw [eF.out] at q1
    go_enter Tryz.func65, Tryz.ntmps65
    go_wp2_with (first
      | (go_at_call 82; refine q1.out.mono ?_; rintro e wa ⟨⟨vq, vr, rfl, mq, mr⟩, ba⟩; obtain ⟨qa, ql, qc, rfl, qe, -, -⟩ := mq.form; obtain ⟨ra, rl, rc, rfl, re, -, -⟩ := mr.form; obtain ⟨x0', x1', x2', -, -, -⟩ := box3 (kept_block X1.out ba); replace mq := hide mq; replace mr := hide mr; replace qe := hide qe; replace re := hide re; replace ba := hide ba)
      | (go_at_call 80; refine (qI.out _).mono ?_; rintro e wb ⟨⟨ve, rfl, me⟩, bb⟩; obtain ⟨ea, el, ec, rfl, -, -, -⟩ := me.form; obtain ⟨y0, y1, y2, f0, f1, f2⟩ := box3 (kept_block Y1.out (ba.out.then_below bb)); replace me := hide me; replace bb := hide bb))
    refine bodyPost_ret (v := .agg #[.bool false, .slice qa ql qc, .slice ea el ec]) (by simp [results, Tryz.results65, go_sem, y0, y1, y2]) rfl ?_
    obtain ⟨u, v⟩ := fin.out wb false qa ql qc ea el ec (ba.out.then_below bb.out) (mq.out.below bb.out) me.out
    exact ⟨⟨_, rfl, u⟩, v⟩
  | true =>
    by_cases hr : n % d = 0
    · have eF : Hid (n / d = F) := by show _ = F; rw [← hF.out]; unfold flN; rw [if_neg (by simp [hr])]
      rw [eF.out, hr] at q1
      clear hr
      by_cases hz : F = 0
      · rw [decide_eq_true hz]
        replace hz := hide hz
        go_enter Tryz.func65, Tryz.ntmps65
        go_wp2_with (first
          | (go_at_call 82; refine q1.out.mono ?_; rintro e wa ⟨⟨vq, vr, rfl, mq, mr⟩, ba⟩; obtain ⟨qa, ql, qc, rfl, qe, -, -⟩ := mq.form; obtain ⟨ra, rl, rc, rfl, re, -, -⟩ := mr.form; obtain ⟨x0', x1', x2', -, -, -⟩ := box3 (kept_block X1.out ba); obtain rfl : ql = 0 := qe.2 hz.out; obtain rfl : rl = 0 := re.2 rfl; replace mq := hide mq; replace mr := hide mr; replace qe := hide qe; replace re := hide re; replace ba := hide ba)
          | (go_at_call 80; refine (qI.out _).mono ?_; rintro e wb ⟨⟨ve, rfl, me⟩, bb⟩; obtain ⟨ea, el, ec, rfl, -, -, -⟩ := me.form; obtain ⟨y0, y1, y2, f0, f1, f2⟩ := box3 (kept_block Y1.out (ba.out.then_below bb)); replace me := hide me; replace bb := hide bb))
        refine bodyPost_ret (v := .agg #[.bool false, .slice qa 0 qc, .slice ea el ec]) (by simp [results, Tryz.results65, go_sem, y0, y1, y2]) rfl ?_
        obtain ⟨u, v⟩ := fin.out wb false qa 0 qc ea el ec (ba.out.then_below bb.out) (mq.out.below bb.out) me.out
        exact ⟨⟨_, rfl, u⟩, v⟩
      · rw [decide_eq_false hz]
        replace hz := hide hz
        go_enter Tryz.func65, Tryz.ntmps65
        go_wp2_with (first
          | (go_at_call 82; refine q1.out.mono ?_; rintro e wa ⟨⟨vq, vr, rfl, mq, mr⟩, ba⟩; obtain ⟨qa, ql, qc, rfl, qe, -, -⟩ := mq.form; obtain ⟨ra, rl, rc, rfl, re, -, -⟩ := mr.form; obtain ⟨x0', x1', x2', -, -, -⟩ := box3 (kept_block X1.out ba); have hql : 0 < ql := Nat.pos_of_ne_zero (fun e => hz.out (qe.1 e)); have hql2 : (0 : Int) < ql := (by omega); obtain rfl : rl = 0 := re.2 rfl; replace mq := hide mq; replace mr := hide mr; replace qe := hide qe; replace re := hide re; replace ba := hide ba)
          | (go_at_call 80; refine (qI.out _).mono ?_; rintro e wb ⟨⟨ve, rfl, me⟩, bb⟩; obtain ⟨ea, el, ec, rfl, -, -, -⟩ := me.form; obtain ⟨y0, y1, y2, f0, f1, f2⟩ := box3 (kept_block Y1.out (ba.out.then_below bb)); replace me := hide me; replace bb := hide bb))
        refine bodyPost_ret (v := .agg #[.bool true, .slice qa ql qc, .slice ea el ec]) (by simp [results, Tryz.results65, go_sem, y0, y1, y2]) rfl ?_
        obtain ⟨u, v⟩ := fin.out wb true qa ql qc ea el ec (ba.out.then_below bb.out) (mq.out.below bb.out) me.out
        exact ⟨⟨_, rfl, u⟩, v⟩
    · have eF : Hid (n / d + 1 = F) := by show _ = F; rw [← hF.out]; unfold flN; rw [if_pos ⟨rfl, hr⟩]
      have hz : ¬ F = 0 := by rw [← eF.out]; exact Nat.succ_ne_zero _
      rw [decide_eq_false hz]
      replace hr := hide hr
      replace hz := hide hz
      go_enter Tryz.func65, Tryz.ntmps65
      go_upto_region 6 with (first
        | (go_at_call 82; refine q1.out.mono ?_; rintro e wa ⟨⟨vq, vr, rfl, mq, mr⟩, ba⟩; obtain ⟨qa, ql, qc, rfl, qe, -, -⟩ := mq.form; obtain ⟨ra, rl, rc, rfl, re, -, -⟩ := mr.form; obtain ⟨x0', x1', x2', -, -, -⟩ := box3 (kept_block X1.out ba); have hrl : 0 < rl := Nat.pos_of_ne_zero (fun e => hr.out (re.1 e)); have hrl2 : (0 : Int) < rl := (by omega); replace mq := hide mq; replace mr := hide mr; replace qe := hide qe; replace re := hide re; replace ba := hide ba)
        | (go_at_call 80; refine (qI.out _).mono ?_; rintro e wc ⟨⟨vc, rfl, mc⟩, bc⟩; replace mc := hide mc; replace bc := hide bc)
        | (go_at_call 92; refine (addRN _ _ _ (n / d) 1 K (mq.out.below bc.out) mc.out kq.out k1.out (by omega)).mono ?_; rintro e wd ⟨⟨vs, rfl, ms⟩, bd⟩; rw [eF.out] at ms; obtain ⟨sa, sl, sc, rfl, se, -, -⟩ := ms.form; have hsl : 0 < sl := Nat.pos_of_ne_zero (fun e => hz.out (se.1 e)); have hsl2 : (0 : Int) < sl := (by omega); replace ms := hide ms; replace se := hide se; replace bd := hide bd))
      have bD := hide ((ba.out.then_below bc.out).then_below bd.out)
      go_wp2_with (go_at_call 80; refine (qI.out _).mono ?_; rintro e wb ⟨⟨ve, rfl, me⟩, bb⟩; obtain ⟨ea, el, ec, rfl, -, -, -⟩ := me.form; obtain ⟨y0, y1, y2, f0, f1, f2⟩ := box3 (kept_block Y1.out (bD.out.then_below bb)); replace me := hide me; replace bb := hide bb)
      refine bodyPost_ret (v := .agg #[.bool true, .slice sa sl sc, .slice ea el ec]) (by simp [results, Tryz.results65, go_sem, y0, y1, y2]) rfl ?_
      obtain ⟨u, v⟩ := fin.out wb true sa sl sc ea el ec (bD.out.then_below bb.out) (ms.out.below bb.out) me.out
      exact ⟨⟨_, rfl, u⟩, v⟩
set_option maxRecDepth 100000 in
set_option maxHeartbeats 4000000 in
theorem rFloor_calls (w : World) (sa : ByteArray) (la : List UInt8) (ha : sa.data.toList = la) (hla : la.length ≤ 1073741824) :
    Calls Tryz.prog 31 #[.string sa] w fun e w' => e = .returned (.tuple #[.string ⟨(floorT la).1.toArray⟩, .int .i64 (floorT la).2]) ∧ Below w.heap.size w w' := by
  cases hk : canB la with
  | false =>
    rw [floorT_no hk]
    have q1 := hide (rof_one w sa la ha hla _ (canB_iff la))
    rw [hk] at q1
    clear hk ha
    go_enter Tryz.func31, Tryz.ntmps31
    go_wp2_with (go_at_call 64; (with_reducible refine q1.out.mono ?_); rintro e w1 ⟨⟨b1, na, nl, nc, da, dl, dc, rfl, h1⟩, bw⟩; replace h1 := hide h1; replace bw := hide bw)
    go_ret2
    exact ⟨rfl, bw.out.then_below (alloc_below w1 _)⟩
  | true =>
    have hca := (canB_iff la).1 hk
    rw [floorT_yes hca]
    have q1 := hide (rof_one w sa la ha hla _ (canB_iff la))
    rw [hk] at q1
    obtain ⟨k1, l1, p1⟩ := can_bounds hca (K := la.length + 1) (by omega)
    have P1 : Hid (∀ W v, RR W v (cneg la) (M.dec (cup la)) (M.dec (clow la)) → Calls Tryz.prog 65 #[v] W fun e w' => (∃ r, e = .returned r ∧ RR w' r (cneg la && !decide (flN (cneg la) (M.dec (cup la)) (M.dec (clow la)) = 0)) (flN (cneg la) (M.dec (cup la)) (M.dec (clow la))) 1) ∧ Below W.heap.size W w') :=
      fun W v h => rbelow_calls W v _ _ _ (la.length + 1) h p1 k1 l1 (by omega) (by omega)
    have kF : Hid (((flN (cneg la) (M.dec (cup la)) (M.dec (clow la)) : Nat) : Int) < M.NB ^ (la.length + 1 + 1)) := by
      show ((flN (cneg la) (M.dec (cup la)) (M.dec (clow la)) : Nat) : Int) < _
      have h1 := flN_le (cneg la) (M.dec (cup la)) (M.dec (clow la))
      have e2 : M.NB ^ (la.length + 1 + 1) = M.NB ^ (la.length + 1) * 1000000000 := by rw [Int.pow_succ]; rfl
      have h2 : (0 : Int) < M.NB ^ (la.length + 1) := Int.pow_pos M.NB_pos
      rw [e2]
      omega
    have kO : Hid (((1 : Nat) : Int) < M.NB ^ (la.length + 1 + 1)) := by
      show ((1 : Nat) : Int) < _
      have e2 : M.NB ^ (la.length + 1 + 1) = M.NB ^ (la.length + 1) * 1000000000 := by rw [Int.pow_succ]; rfl
      have h2 : (0 : Int) < M.NB ^ (la.length + 1) := Int.pow_pos M.NB_pos
      rw [e2]
      omega
    have HA := hide hca
    have ht : Hid (∀ (s : Bool) (n : Nat), rText s n 1 = ratText s n 0) := fun s n => by show rText s n 1 = _; unfold rText; rw [if_pos rfl]
    clear hk ha hca k1 l1 p1
    generalize (cneg la && !decide (flN (cneg la) (M.dec (cup la)) (M.dec (clow la)) = 0)) = SG at *
    generalize flN (cneg la) (M.dec (cup la)) (M.dec (clow la)) = F at *
    go_enter Tryz.func31, Tryz.ntmps31
    go_wp2_with (first
      | (go_at_call 64; (with_reducible refine q1.out.mono ?_); rintro e w1 ⟨⟨b1, na, nl, nc, da, dl, dc, rfl, h1⟩, bw⟩; replace h1 := hide ((h1 HA.out).below (alloc_below w1 (.cells #[.bool b1, .slice na nl nc, .slice da dl dc] 56))); replace bw := hide (bw.then_below (alloc_below w1 (.cells #[.bool b1, .slice na nl nc, .slice da dl dc] 56))))
      | (go_at_call 65; refine (P1.out _ _ h1.out).mono ?_; rintro e w2 ⟨⟨v2, rfl, n2⟩, bw2⟩; have q3 := hide (rtext_calls w2 v2 _ _ _ (la.length + 1 + 1) n2 (by decide) kF.out kO.out (by omega)); rw [ht.out] at q3; replace bw2 := hide bw2)
      | (go_at_call 41; (with_reducible refine q3.out.mono ?_); rintro e w3 ⟨rfl, bw3⟩; replace bw3 := hide bw3))
    go_ret2
    exact ⟨rfl, (bw.out.then_below bw2.out).then_below bw3.out⟩
theorem one_cellS (w : World) (x : Value) (t : TypeId) : (w.alloc (.cells #[x] t)).cell? ⟨w.heap.size, 0, none⟩ = some x := by
  rw [cell_of_row _ _ 0 _ _ (0, 0) (heap_alloc_new w (.cells #[x] t))]; rfl
set_option maxRecDepth 100000 in
set_option maxHeartbeats 4000000 in
theorem numFloor_calls (w : World) (sa : ByteArray) (la : List UInt8) (ha : sa.data.toList = la) (hla : la.length ≤ 1073741824) (m : Int) (hM : w.cell? ⟨0, 0, none⟩ = some (.int .i64 m)) (hT : Tab w) (hP : Pows w) :
    Calls Tryz.prog 30 #[.string sa] w fun e w' => e = .returned (.tuple #[.string ⟨(floorT la).1.toArray⟩, .int .i64 (floorT la).2]) ∧ Below w.heap.size w w' := by
  have bA := alloc_below w (.cells #[.string sa] 9)
  have t0 := one_cellS w (.string sa) 9
  have hM' : (w.alloc (.cells #[.string sa] 9)).cell? ⟨0, 0, none⟩ = some (.int .i64 m) := by rw [bA.cell (World.block_lt_of_cell? w _ hM)]; exact hM
  obtain ⟨W0, hW0⟩ : ∃ W0, (w.alloc (.cells #[.string sa] 9)) = W0 := ⟨_, rfl⟩
  have hz : W0.heap.size = w.heap.size + 1 := by rw [← hW0]; show (w.heap.push _).size = _; simp
  rw [hW0] at bA t0 hM'
  have q0 := parse_single W0 sa la ha hla w.heap.size 1 t0 m hM' (hT.below bA) _ (canB_iff la)
  cases hk : canB la with
  | false =>
    rw [floorT_no hk]
    rw [hk] at q0
    have q1 := hide (q0.mono (fun e w' ⟨⟨_, h2⟩, h3⟩ => (⟨h2 rfl, h3⟩ : e = Ending.returned (.tuple #[.slice none 0 0, .bool false]) ∧ Below W0.heap.size W0 w')))
    replace bA := hide bA
    clear ha t0 hM hM' hT hP hk q0 hz
    go_enter Tryz.func30, Tryz.ntmps30
    go_wp2_with (go_at_call 50; (with_reducible refine q1.out.mono ?_); rintro e w1 ⟨rfl, b1⟩; replace b1 := hide b1)
    go_ret2
    exact ⟨rfl, bA.out.then_below b1.out⟩
  | true =>
    have hca := (canB_iff la).1 hk
    rw [floorT_yes hca]
    rw [hk] at q0
    have q2 := q0.mono (fun e w' ⟨⟨h1, _⟩, h3⟩ => (⟨h1 rfl, h3⟩ : (e = Ending.returned (.tuple #[.slice (some ⟨W0.heap.size, 0, none⟩) 1 1, .bool true]) ∧ OneS W0 w' la) ∧ Below W0.heap.size W0 w'))
    unfold OneS at q2
    have HZ := hide hz
    rw [hz] at q2
    have q1 := hide q2
    obtain ⟨k1, l1⟩ := can_BB hca (K := la.length + 1) (by omega)
    have e1 := lowN_can hca
    have P1 : Hid (∀ W v, DenR W v (cneg la) (M.dec (cup la)) (cden la) → Calls Tryz.prog 63 #[v] W fun e w' => (∃ r, e = .returned r ∧ DenR w' r (cneg la && !decide (flN (cneg la) (M.dec (cup la)) (M.dec (clow la)) = 0)) (flN (cneg la) (M.dec (cup la)) (M.dec (clow la))) 0) ∧ Below W.heap.size W w') := by
      intro W v h
      have := pfloor_calls W v _ _ _ (la.length + 1) h k1 (by omega)
      rw [e1] at this
      exact this
    have kF : Hid (((flN (cneg la) (M.dec (cup la)) (M.dec (clow la)) : Nat) : Int) < M.BB ^ (la.length + 1 + 1)) := by
      show ((flN (cneg la) (M.dec (cup la)) (M.dec (clow la)) : Nat) : Int) < _
      have h1 := flN_le (cneg la) (M.dec (cup la)) (M.dec (clow la))
      have e2 : M.BB ^ (la.length + 1 + 1) = M.BB ^ (la.length + 1) * 18446744073709551616 := by rw [Int.pow_succ]; rfl
      have h2 : (0 : Int) < M.BB ^ (la.length + 1) := Int.pow_pos M.BB_pos
      rw [e2]
      omega
    have kO : Hid (((0 : Nat) : Int) < M.BB ^ (la.length + 1 + 1)) := Int.pow_pos M.BB_pos
    have PP := hide (hP.below bA)
    replace bA := hide bA
    clear ha t0 hM hM' hT hP hk q0 q2 hz hca k1 l1 e1
    generalize (cneg la && !decide (flN (cneg la) (M.dec (cup la)) (M.dec (clow la)) = 0)) = SG at *
    generalize flN (cneg la) (M.dec (cup la)) (M.dec (clow la)) = F at *
    go_enter Tryz.func30, Tryz.ntmps30
    go_wp2_with (first
      | (go_at_call 50; (with_reducible refine q1.out.mono ?_); rintro e w1 ⟨⟨rfl, h1⟩, b1_1⟩; obtain ⟨b1, x1, x2, x3, x4, y1, y2, y3, y4, A1, da, B1⟩ := h1; obtain ⟨⟨z0, z1, z2, z3, z4⟩, -⟩ := ratBox A1; replace A1 := hide A1; replace da := hide da; replace B1 := hide B1; replace b1_1 : Below W0.heap.size W0 w1 := (by rw [HZ.out]; exact b1_1))
      | (go_at_call 63; refine (P1.out _ _ da.out).mono ?_; rintro e wc ⟨⟨rc, rfl, dc⟩, bc⟩; replace dc := hide dc; replace bc := hide bc)
      | (go_at_call 38; refine (ratText_calls _ _ SG F 0 (la.length + 1 + 1) dc.out kF.out kO.out (by omega) ((PP.out.below b1_1).below bc.out)).mono ?_; rintro e wd ⟨rfl, bd⟩; replace bd := hide bd))
    go_ret2
    exact ⟨rfl, ((bA.out.then_below b1_1).then_below bc.out).then_below bd.out⟩
end Go.Proofs.YtnjghgkneolnoaaGreatDoor
