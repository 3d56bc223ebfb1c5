/- Laid together of: Ref1, Ref2, Ref3, Ref4, RefSub, RefMul, RefSmall, RefInt, RefTimes. -/
import Derived.Test.YtlepicdpelkmlaaGreatDoorAll8
import Derived.Test.YtlepicdpelkmlaaGreatDoorAllMath
/- ==== Ref1 ==== -/
namespace Go.Proofs.YtlepicdpelkmlaaGreatDoor
open Go.RowKit
set_option linter.unusedVariables false
end Go.Proofs.YtlepicdpelkmlaaGreatDoor
/- ==== Ref2 ==== -/
namespace Go.Proofs.YtlepicdpelkmlaaGreatDoor
open Go.RowKit
set_option linter.unusedVariables false
/-- A slice that reads as the ints l; what it has room for is bounded by the model's own bound alone (append draws the room). -/
def RowM (w : World) (v : Value) (l : List Int) : Prop :=
  ∃ ao cap, v = .slice ao l.length cap ∧ l.length ≤ cap ∧ cap ≤ 9223372036854775807 ∧ (ao = none → cap = 0) ∧
    (l ≠ [] → ∃ b off, ao = some ⟨b, off, none⟩ ∧ ∀ j, j < l.length → w.cell? ⟨b, off + j, none⟩ = some (.int .i64 (l.getD j 0)))
theorem Row.m {w : World} {v : Value} {l : List Int} (h : Row .i64 w v l) : RowM w v l := by
  obtain ⟨ao, cap, h0, h1, h2, h3, h4⟩ := h
  exact ⟨ao, cap, h0, h1, Nat.le_trans h2 (by decide), h3, h4⟩
theorem RowM.below {w w' : World} {v : Value} {l : List Int} (h : RowM w v l) (q : Below w.heap.size w w') : RowM w' v l := by
  obtain ⟨ao, cap, h0, h1, h2, h3, h4⟩ := h
  refine ⟨ao, cap, h0, h1, h2, h3, fun hl => ?_⟩
  obtain ⟨b, off, e, hc⟩ := h4 hl
  refine ⟨b, off, e, fun j hj => ?_⟩
  rw [q.cell (p := ⟨b, off + j, none⟩) (World.block_lt_of_cell? w _ (hc j hj))]
  exact hc j hj
set_option maxHeartbeats 800000 in
theorem rtrim_at (w : World) (b off cap : Nat) (l : List Int) (hl : l.length ≤ cap) (hcap : cap ≤ 9223372036854775807)
    (hc : ∀ j, j < l.length → w.cell? ⟨b, off + j, none⟩ = some (.int .i64 (l.getD j 0))) :
    Calls Tryz.prog 70 #[.slice (some ⟨b, off, none⟩) l.length cap] w fun e w' => e = .returned (.slice (some ⟨b, off, none⟩) (M.trimmed l).length cap) ∧ w' = w := by
  go_enter Tryz.func70, Tryz.ntmps70
  go_wp2
  go_loop [3] (fun v => ∃ k : Nat, k ≤ l.length ∧ v = .int .i64 k ∧ Hid (M.trimmed (l.take k) = M.trimmed l)) (fun v => (intOf v).toNat)
  case atStart => exact ⟨l.length, Nat.le_refl _, rfl, by show M.trimmed _ = _; rw [List.take_length]⟩
  case round =>
    obtain ⟨k, hk, rfl, ht⟩ := hrel
    by_cases h0 : 0 < k
    · have hck : w.cell? ⟨b, off + (k - 1), none⟩ = some (.int .i64 (l.getD (k - 1) 0)) := hc (k - 1) (by omega)
      clear hc
      by_cases hz : l.getD (k - 1) 0 = 0
      · rw [hz] at hck
        go_wp2
        go_round
        case rel =>
          refine ⟨k - 1, by omega, by congr 1; omega, ?_⟩
          show M.trimmed _ = _
          rw [← ht.out, ← M.trimmed_take_zero l (k - 1) (by omega) hz, Nat.sub_add_cancel h0]
        case measure => simp [intOf]; omega
      · have hz' : (l.getD (k - 1) 0 == 0) = false := by simpa using hz
        have hf : Hid (k = (M.trimmed l).length) := by
          show k = _
          have h1 := M.trimmed_take_nonzero l (k - 1) (by omega) hz
          rw [Nat.sub_add_cancel h0, ht.out] at h1
          rw [h1, List.length_take]
          omega
        clear hz
        generalize l.getD (k - 1) 0 = x at *
        go_wp2
        go_ret
        exact ⟨ret_slice hf.out, rfl⟩
    · have hf : Hid (k = (M.trimmed l).length) := by
        show k = _
        have h1 := ht.out
        have h2 : k = 0 := by omega
        rw [h2] at h1 ⊢
        rw [← h1]
        rfl
      obtain rfl : k = 0 := by omega
      go_wp2
      go_ret
      exact ⟨ret_slice hf.out, rfl⟩
end Go.Proofs.YtlepicdpelkmlaaGreatDoor
/- ==== Ref3 ==== -/
namespace Go.Proofs.YtlepicdpelkmlaaGreatDoor
open Go.RowKit
set_option linter.unusedVariables false
set_option maxHeartbeats 800000 in
theorem limb_calls (w : World) (v : Value) (l : List Int) (i : Nat) (h : RowM w v l) (hi63 : i < 9223372036854775807) :
    Calls Tryz.prog 87 #[v, .int .i64 i] w fun e w' => e = .returned (.int .i64 (l.getD i 0)) ∧ w' = w := by
  obtain ⟨ao, cap, rfl, h1, h2, h3, h4⟩ := h
  by_cases hi : i < l.length
  · obtain ⟨b, off, rfl, hc⟩ := h4 (by rintro rfl; simp at hi)
    have c := hc i hi
    clear hc h4
    generalize l.getD i 0 = x at *
    go_enter Tryz.func87, Tryz.ntmps87
    go_wp2
    go_ret
    exact ⟨rfl, rfl⟩
  · have e : l.getD i 0 = 0 := by rw [List.getD_eq_getElem?_getD, List.getElem?_eq_none (by omega)]; rfl
    rw [e]
    clear e h4
    go_enter Tryz.func87, Tryz.ntmps87
    go_wp2
    go_ret
    exact ⟨rfl, rfl⟩
set_option maxHeartbeats 400000 in
theorem rtrim_nil (w : World) (ao : Option Addr) (cap : Nat) :
    Calls Tryz.prog 70 #[.slice ao 0 cap] w fun e w' => e = .returned (.slice ao 0 cap) ∧ w' = w := by
  go_enter Tryz.func70, Tryz.ntmps70
  go_wp2
  refine wp_loop_rounds 1 ?_
  rw [rounds_succ]
  go_wp2
  go_ret
  exact ⟨rfl, rfl⟩
theorem rtrim_calls (w : World) (v : Value) (l : List Int) (h : RowM w v l) :
    Calls Tryz.prog 70 #[v] w fun e w' => (∃ u, e = .returned u ∧ RowM w u (M.trimmed l) ∧ ∀ a n c, u = .slice (some a) n c → ∃ m, v = .slice (some a) m c) ∧ w' = w := by
  obtain ⟨ao, cap, rfl, h1, h2, h3, h4⟩ := h
  by_cases hl : l = []
  · subst hl
    refine (rtrim_nil w ao cap).mono ?_
    rintro e w' ⟨rfl, rfl⟩
    exact ⟨⟨_, rfl, ⟨ao, cap, rfl, h1, h2, h3, fun h => absurd rfl h⟩, fun a n c e => ⟨n, e⟩⟩, rfl⟩
  · obtain ⟨b, off, rfl, hc⟩ := h4 hl
    refine (rtrim_at w b off cap l h1 h2 hc).mono ?_
    rintro e w' ⟨rfl, rfl⟩
    have ht := M.trimmed_le l
    refine ⟨⟨_, rfl, ⟨_, cap, rfl, by omega, h2, h3, fun _ => ⟨b, off, rfl, fun j hj => ?_⟩⟩, fun a n c e => ⟨l.length, by simp at e ⊢; exact ⟨e.1, e.2.2⟩⟩⟩, rfl⟩
    rw [hc j (by omega)]
    rw [show (M.trimmed l).getD j 0 = l.getD j 0 from M.trimmed_getD l j hj]
end Go.Proofs.YtlepicdpelkmlaaGreatDoor
/- ==== Ref4 ==== -/
namespace Go.Proofs.YtlepicdpelkmlaaGreatDoor
open Go.RowKit
set_option linter.unusedVariables false
theorem rcmp_dig {a b : List Int} (ha : M.Dig M.NB a) (hb : M.Dig M.NB b) (hl : a.length = b.length) (k : Nat) (hk : k < a.length) (htop : a.drop (k + 1) = b.drop (k + 1)) (h : a.getD k 0 ≠ b.getD k 0) :
    M.cmp (a.getD k 0) (b.getD k 0) = M.cmp (M.val M.NB a) (M.val M.NB b) := by
  rcases Int.lt_trichotomy (a.getD k 0) (b.getD k 0) with h' | h' | h'
  · rw [M.cmp_lt h', M.cmp_lt (M.lt_of_digit M.NB_pos ha hb hl k hk htop h')]
  · exact absurd h' h
  · rw [M.cmp_gt h', M.cmp_gt (M.lt_of_digit M.NB_pos hb ha hl.symm k (by omega) htop.symm h')]
set_option maxRecDepth 100000 in
set_option maxHeartbeats 800000 in
theorem rnatCmp_calls (w : World) (va vb : Value) (la lb : List Int) (ra : RowM w va la) (rb : RowM w vb lb) (da : M.Dig M.NB la) (db : M.Dig M.NB lb) (ta : M.Trm la) (tb : M.Trm lb) :
    Calls Tryz.prog 46 #[va, vb] w fun e w' => e = .returned (.int .i64 (M.cmp (M.val M.NB la) (M.val M.NB lb))) ∧ ∃ n, w' = w.drewN n := by
  obtain ⟨aa, ca, rfl, a1, a2, a3, a4⟩ := ra
  obtain ⟨ab, cb, rfl, b1, b2, b3, b4⟩ := rb
  by_cases hl : la.length = lb.length
  · have hbe : ((la.length : Int) != (lb.length : Int)) = false := by simp [hl]
    have HL := hide hl
    have hl1 : la.length ≤ lb.length := by omega
    have hl2 : lb.length ≤ la.length := by omega
    clear hl
    go_enter Tryz.func46, Tryz.ntmps46
    go_wp2
    go_loopw [5] (fun i wr => ∃ (k n : Nat), k ≤ la.length ∧ i = .int .i64 ((k : Int) - 1) ∧ Hid (la.drop k = lb.drop k) ∧ wr = w.drewN n) (fun i _ => (intOf i + 1).toNat)
    case atStart => exact ⟨la.length, 0, Nat.le_refl _, rfl, by show _ = _; rw [List.drop_length, HL.out, List.drop_length], rfl⟩
    case round =>
      obtain ⟨k, n, hk, rfl, ht, rfl⟩ := hrel
      by_cases h0 : 0 < k
      · obtain ⟨k, rfl⟩ : ∃ j, k = j + 1 := ⟨k - 1, by omega⟩
        rw [show ((k + 1 : Nat) : Int) - 1 = (k : Int) from by omega]
        obtain ⟨ba, oa, rfl, hca⟩ := a4 (by rintro rfl; simp at hk)
        obtain ⟨bb, ob, rfl, hcb⟩ := b4 (by intro e; rw [e] at hl1; simp only [List.length_nil] at hl1; omega)
        have h1 := hca k (by omega)
        have h2 := hcb k (by omega)
        clear a4 b4 hca hcb
        by_cases he : la.getD k 0 = lb.getD k 0
        · have hd := hide (drop_more HL.out k (by omega) ht.out he)
          rw [← he] at h2
          generalize la.getD k 0 = x at *
          clear he
          go_wp2
          go_region
          all_goals (try go_wp2)
          go_region
          all_goals (try go_wp2)
          go_roundw
          case rel => exact ⟨k, n + 1 + 1, by omega, rfl, hd, rfl⟩
          case measure => simp [intOf]
        · have hf := hide (rcmp_dig da db HL.out k (by omega) ht.out he)
          by_cases hlt : la.getD k 0 < lb.getD k 0
          · rw [M.cmp_lt hlt] at hf
            clear he
            generalize la.getD k 0 = x at *
            generalize lb.getD k 0 = y at *
            go_wp2
            go_region
            all_goals (try go_wp2)
            all_goals go_ret
            all_goals exact ⟨ret_int hf.out, _, rfl⟩
          · have hgt : lb.getD k 0 < la.getD k 0 := by omega
            rw [M.cmp_gt hgt] at hf
            clear he
            generalize la.getD k 0 = x at *
            generalize lb.getD k 0 = y at *
            go_wp2
            go_region
            all_goals (try go_wp2)
            go_region
            all_goals (try go_wp2)
            all_goals go_ret
            all_goals exact ⟨ret_int hf.out, _, rfl⟩
      · have hk0 : k = 0 := by omega
        subst hk0
        have he := hide (M.cmp_eq (congrArg (M.val M.NB) (by simpa using ht.out)))
        rw [show ((0 : Nat) : Int) - 1 = -1 from rfl]
        clear a4 b4
        go_wp2
        go_ret
        exact ⟨ret_int he.out.symm, _, rfl⟩
  · have hbe : ((la.length : Int) != (lb.length : Int)) = true := by simpa using fun h : (la.length : Int) = lb.length => hl (by omega)
    rcases Nat.lt_or_gt_of_ne hl with h | h
    · have hf := hide (M.cmp_lt (M.lt_of_length M.NB_pos da db tb h))
      clear hl a4 b4
      go_enter Tryz.func46, Tryz.ntmps46
      go_wp2
      go_ret
      exact ⟨ret_int hf.out.symm, 0, by simp [World.drewN_zero]⟩
    · have hf := hide (M.cmp_gt (M.lt_of_length M.NB_pos db da ta h))
      clear hl a4 b4
      go_enter Tryz.func46, Tryz.ntmps46
      go_wp2
      go_ret
      exact ⟨ret_int hf.out.symm, 0, by simp [World.drewN_zero]⟩
end Go.Proofs.YtlepicdpelkmlaaGreatDoor
/- ==== RefSub ==== -/
namespace Go.Proofs.YtlepicdpelkmlaaGreatDoor
open Go.RowKit
set_option linter.unusedVariables false
namespace M
theorem val_take_succ' {B : Int} (l : List Int) (k : Nat) : val B (l.take (k + 1)) = val B (l.take k) + B ^ k * l.getD k 0 := by
  rcases Nat.lt_or_ge k l.length with h | h
  · exact val_take_succ l k h
  · have e : l.getD k 0 = 0 := by rw [List.getD_eq_getElem?_getD, List.getElem?_eq_none h]; rfl
    rw [List.take_of_length_le h, List.take_of_length_le (by omega), e, Int.mul_zero, Int.add_zero]
/-- The digit and the borrow of t. -/
def nlo (t : Int) : Int := if t < 0 then t + NB else t
def nbo (t : Int) : Int := if t < 0 then 1 else 0
theorem nlo_bd {t : Int} (h0 : -NB ≤ t) (h1 : t < NB) : 0 ≤ nlo t ∧ nlo t < NB := by unfold nlo; split <;> omega
theorem nbo_bd (t : Int) : 0 ≤ nbo t ∧ nbo t ≤ 1 := by unfold nbo; split <;> omega
theorem nlo_nbo (t : Int) : nlo t - NB * nbo t = t := by unfold nlo nbo; split <;> omega
end M
theorem rsub_step {y la lb : List Int} {k : Nat} {a b c : Int} (hk : k < y.length) (hy : y.getD k 0 = 0) (ha : la.getD k 0 = a) (hb : lb.getD k 0 = b)
    (hv : M.val M.NB y - M.NB ^ k * c = M.val M.NB (la.take k) - M.val M.NB (lb.take k)) :
    M.val M.NB (y.set k (M.nlo (a - b - c))) - M.NB ^ (k + 1) * M.nbo (a - b - c) = M.val M.NB (la.take (k + 1)) - M.val M.NB (lb.take (k + 1)) := by
  rw [M.val_set _ _ _ hk, M.val_take_succ', M.val_take_succ', ha, hb, hy, Int.pow_succ]
  have := M.nlo_nbo (a - b - c)
  generalize M.nlo (a - b - c) = p at *
  generalize M.nbo (a - b - c) = q at *
  generalize M.NB = B at *
  grind
theorem set_zeros {y : List Int} {k : Nat} {d : Int} (h : ∀ j, k ≤ j → y.getD j 0 = 0) : ∀ j, k + 1 ≤ j → (y.set k d).getD j 0 = 0 := by
  intro j hj
  have := h j (by omega)
  rw [List.getD_eq_getElem?_getD] at this ⊢
  rw [List.getElem?_set_ne (by omega)]
  exact this
set_option maxRecDepth 100000 in
set_option maxHeartbeats 3200000 in
theorem rnatSub_calls (w : World) (va vb : Value) (la lb : List Int) (ra : RowM w va la) (rb : RowM w vb lb) (da : M.Dig M.NB la) (db : M.Dig M.NB lb)
    (na : la.length ≤ 35184372088832) (nb : lb.length ≤ la.length) (hle : M.val M.NB lb ≤ M.val M.NB la) :
    Calls Tryz.prog 65 #[va, vb] w fun e w' => (∃ v l, e = .returned v ∧ RowM w' v l ∧ Fresh w.heap.size v l ∧ M.Dig M.NB l ∧ M.Trm l ∧ M.val M.NB l = M.val M.NB la - M.val M.NB lb) ∧ Below w.heap.size w w' := by
  have HLE := hide hle
  have HNB := hide nb
  clear hle nb
  have RB := hide rb
  clear rb
  obtain ⟨aa, ca, rfl, a1, a2, a3, a4⟩ := ra
  go_enter Tryz.func65, Tryz.ntmps65
  go_wp2_with (at_make; refine wpList_make_row _ rfl _ _ _ rfl .i64 _ 8 sliceInt infoInt .i64 .i64 _ _ la.length rfl rfl (by omega) (by omega) (by decide) (by omega) ?_; intro w1 z1 hz1 ho1 hg1 hs1)
  have B1 := grown_below hg1
  have hz1l : z1.length = la.length := by rw [hz1.out]; simp
  have hzd : M.Dig M.NB z1 := by
    rw [hz1.out]
    intro x hx
    rw [List.eq_of_mem_replicate hx]
    decide
  have hz0 : Hid (∀ j, 0 ≤ j → z1.getD j 0 = 0) := fun j _ => by
    rw [hz1.out, List.getD_eq_getElem?_getD, List.getElem?_replicate]
    split <;> rfl
  have hzv : Hid (M.val M.NB z1 - M.NB ^ 0 * 0 = M.val M.NB (la.take 0) - M.val M.NB (lb.take 0)) := by
    show _ = _
    have : M.val M.NB z1 = 0 := by rw [hz1.out]; exact M.val_replicate _
    rw [this]
    simp [M.val]
  clear hg1 hs1 hz1
  go_loopw [6, 7] (fun cv i wr => ∃ (k : Nat) (c : Int) (y : List Int), k ≤ la.length ∧ i = .int .i64 k ∧ cv = .int .i64 c ∧ 0 ≤ c ∧ c ≤ 1 ∧ Own .i64 3 wr w.heap.size y ∧ M.Dig M.NB y ∧ y.length = la.length ∧ Hid (∀ j, k ≤ j → y.getD j 0 = 0) ∧
      Hid (M.val M.NB y - M.NB ^ k * c = M.val M.NB (la.take k) - M.val M.NB (lb.take k)) ∧ Below w.heap.size w wr) (fun _ i _ => la.length - (intOf i).toNat)
  case atStart => exact ⟨0, 0, z1, Nat.zero_le _, rfl, rfl, by decide, by decide, ho1, hzd, hz1l, hz0, hzv, B1⟩
  case round =>
    clear ho1 hzd hz1l hz0 hzv B1
    obtain ⟨k, c, y, hk, rfl, rfl, hc0, hc1, hy, hyd, hyl, hy0, hv, hg⟩ := hrel
    by_cases hlt : k < la.length
    · obtain ⟨ba, oa, rfl, hca⟩ := a4 (by rintro rfl; simp at hlt)
      have hbl : ba < w.heap.size := World.block_lt_of_cell? w _ (hca k hlt)
      have hcell : wr.cell? ⟨ba, oa + k, none⟩ = some (.int .i64 (la.getD k 0)) := (hg.cell (p := ⟨ba, oa + k, none⟩) hbl).trans (hca k hlt)
      have hcy := hy.cell k (by omega)
      have hfy := hy.frozen k
      have hb1 := da.getD M.NB_pos k
      have hb2 := db.getD M.NB_pos k
      have q := hide (limb_calls wr.drew vb lb k (RB.out.below (hg.drew)) (by omega))
      generalize hx : la.getD k 0 = x at *
      generalize hyx : lb.getD k 0 = z at *
      clear hca a4
      have Hx := hide hx
      have Hy := hide hyx
      have Hl := hide hyl
      rw [M.NB_eq] at hb1 hb2
      have e1 : IntKind.i64.wrap (x - z) = x - z := by rw [IntKind.wrap_i64]; omega
      have e2 : IntKind.i64.wrap (x - z - c) = x - z - c := by rw [IntKind.wrap_i64]; omega
      have S0 := hide hcell
      have S1 : Hid (wr.drew.cell? ⟨ba, oa + k, none⟩ = some (.int .i64 x)) := hcell
      have HS := hide (rsub_step (by omega) (hy0.out k (Nat.le_refl _)) hx hyx hv.out)
      have HD := M.nlo_bd (t := x - z - c) (by rw [M.NB_eq]; omega) (by rw [M.NB_eq]; omega)
      have HZ := hide (set_zeros (d := M.nlo (x - z - c)) hy0.out)
      have HO := hide ((hy.drew).set k (M.nlo (x - z - c)))
      have HG := hide (hg.drew.then_grown (grown_set wr.drew w.heap.size k (.int .i64 (M.nlo (x - z - c)))) (by simp))
      have HDD := hide (hyd.set k HD.1 HD.2)
      clear hx hyx hyl HD hy hyd hv hy0
      go_wp2_with fail
      go_region_held3
        (fun w' => w'.cell? ⟨ba, oa + k, none⟩ = some (.int .i64 x))
        (first
          | with_reducible exact S0.out
          | with_reducible exact S1.out)
        (first
          | (go_at_call 87; refine q.out.mono ?_; rintro e wq ⟨rfl, rfl⟩))
      by_cases hneg : x - z - c < 0
      · have en : M.nlo (x - z - c) = x - z - c + 1000000000 := by unfold M.nlo; rw [if_pos hneg]; rfl
        have eb : M.nbo (x - z - c) = 1 := by unfold M.nbo; rw [if_pos hneg]
        rw [en, eb] at HS
        rw [en] at HO HG HZ HDD
        have e3 : IntKind.i64.wrap (x - z - c + 1000000000) = x - z - c + 1000000000 := by rw [IntKind.wrap_i64]; omega
        clear en eb
        generalize ht : x - z - c = t at *
        go_wp2
        go_roundw
        case rel => exact ⟨k + 1, 1, y.set k (t + 1000000000), by omega, by go_num, rfl, by decide, by decide, HO.out, HDD.out, by simpa using Hl.out, HZ, HS, HG.out⟩
        case measure => simp [intOf]; omega
      · have en : M.nlo (x - z - c) = x - z - c := by unfold M.nlo; rw [if_neg hneg]
        have eb : M.nbo (x - z - c) = 0 := by unfold M.nbo; rw [if_neg hneg]
        rw [en, eb] at HS
        rw [en] at HO HG HZ HDD
        clear en eb
        generalize ht : x - z - c = t at *
        go_wp2
        go_roundw
        case rel => exact ⟨k + 1, 0, y.set k t, by omega, by go_num, rfl, by decide, by decide, HO.out, HDD.out, by simpa using Hl.out, HZ, HS, HG.out⟩
        case measure => simp [intOf]; omega
    · obtain rfl : k = la.length := by omega
      have hv' := hv.out
      rw [List.take_length, List.take_of_length_le HNB.out] at hv'
      have h3 := M.val_lt M.NB_pos hyd
      rw [hyl] at h3
      have h2 := HLE.out
      have hc00 : c = 0 := by
        rcases Int.lt_or_le 0 c with h | h
        · obtain rfl : c = 1 := by omega
          rw [Int.mul_one] at hv'
          omega
        · omega
      subst hc00
      have HV : Hid (M.val M.NB y = M.val M.NB la - M.val M.NB lb) := by show _ = _; rw [Int.mul_zero, Int.sub_zero] at hv'; exact hv'
      have RY := hy.all la.length (by omega) (by omega)
      rw [hyl] at RY
      have q := hide (rtrim_calls wr _ y RY.m)
      clear hv' h3 h2 a4
      go_wp2_with fail
      refine q.out.mono ?_
      rintro e w2 ⟨⟨u, rfl, ru, fu⟩, hw2⟩
      rw [hw2]
      go_wp2
      go_ret
      exact ⟨⟨u, M.trimmed y, rfl, ru, trim_fresh (own_fresh _ _ _) fu, M.trimmed_dig hyd, M.trimmed_trm _, by rw [M.trimmed_val]; exact HV.out⟩, hg⟩
end Go.Proofs.YtlepicdpelkmlaaGreatDoor
/- ==== RefMul ==== -/
namespace Go.Proofs.YtlepicdpelkmlaaGreatDoor
open Go.RowKit
set_option linter.unusedVariables false
theorem rmul_step {y lb : List Int} {i k : Nat} {u x b c V : Int} (hk : i + k < y.length) (hy : y.getD (i + k) 0 = u) (hb : lb.getD k 0 = b)
    (hv : M.val M.NB y + M.NB ^ (i + k) * c = V + M.NB ^ i * (x * M.val M.NB (lb.take k))) :
    M.val M.NB (y.set (i + k) ((u + x * b + c) % 1000000000)) + M.NB ^ (i + (k + 1)) * ((u + x * b + c) / 1000000000) = V + M.NB ^ i * (x * M.val M.NB (lb.take (k + 1))) := by
  rw [M.val_set _ _ _ hk, M.val_take_succ', hb, hy, show i + (k + 1) = i + k + 1 from rfl, Int.pow_succ, Int.pow_add]
  rw [Int.pow_add] at hv
  have h := Int.mul_ediv_add_emod (u + x * b + c) 1000000000
  rw [← M.NB_eq] at h ⊢
  generalize (u + x * b + c) % M.NB = p at *
  generalize (u + x * b + c) / M.NB = q at *
  generalize M.NB = B at *
  grind
theorem rmul_last {y la lb : List Int} {i : Nat} {x c : Int} (hk : i + lb.length < y.length) (hy : y.getD (i + lb.length) 0 = 0) (hx : la.getD i 0 = x)
    (hv : M.val M.NB y + M.NB ^ (i + lb.length) * c = M.val M.NB (la.take i) * M.val M.NB lb + M.NB ^ i * (x * M.val M.NB lb)) :
    M.val M.NB (y.set (i + lb.length) c) = M.val M.NB (la.take (i + 1)) * M.val M.NB lb := by
  rw [M.val_set _ _ _ hk, M.val_take_succ', hx, hy]
  generalize M.NB = B at *
  grind
theorem prod_bd {u x b c : Int} (u0 : 0 ≤ u ∧ u < 1000000000) (x0 : 0 ≤ x ∧ x < 1000000000) (b0 : 0 ≤ b ∧ b < 1000000000) (c0 : 0 ≤ c ∧ c < 1000000000) :
    0 ≤ x * b ∧ x * b ≤ 999999998000000001 ∧ 0 ≤ u + x * b + c ∧ u + x * b + c ≤ 999999999999999999 := by
  have h1 : 0 ≤ x * b := Int.mul_nonneg x0.1 b0.1
  have h2 : x * b ≤ 999999999 * 999999999 := Int.mul_le_mul (by omega) (by omega) b0.1 (by omega)
  omega
theorem set_zeros' {y : List Int} {n m : Nat} {d : Int} (h : ∀ j, m ≤ j → y.getD j 0 = 0) (hn : n < m) : ∀ j, m ≤ j → (y.set n d).getD j 0 = 0 := by
  intro j hj
  have := h j hj
  rw [List.getD_eq_getElem?_getD] at this ⊢
  rw [List.getElem?_set_ne (by omega)]
  exact this
set_option maxRecDepth 100000 in
set_option maxHeartbeats 3200000 in
theorem rnatMul_calls (w : World) (va vb : Value) (la lb : List Int) (ra : RowM w va la) (rb : RowM w vb lb) (da : M.Dig M.NB la) (db : M.Dig M.NB lb)
    (na : la.length ≤ 17592186044416) (nb : lb.length ≤ 17592186044416) :
    Calls Tryz.prog 53 #[va, vb] w fun e w' => (∃ v l, e = .returned v ∧ RowM w' v l ∧ Fresh w.heap.size v l ∧ M.Dig M.NB l ∧ M.Trm l ∧ M.val M.NB l = M.val M.NB la * M.val M.NB lb) ∧ Below w.heap.size w w' := by
  obtain ⟨aa, ca, rfl, a1, a2, a3, a4⟩ := ra
  obtain ⟨ab, cb, rfl, b1, b2, b3, b4⟩ := rb
  have A4 := hide a4
  have B4 := hide b4
  clear a4 b4
  go_enter Tryz.func53, Tryz.ntmps53
  go_wp2_with (at_make; refine wpList_make_row _ rfl _ _ _ rfl .i64 _ 8 sliceInt infoInt .i64 .i64 _ _ (la.length + lb.length) rfl rfl (by omega) (by omega) (by decide) (by omega) ?_; intro w1 z1 hz1 ho1 hg1 hs1)
  have B1 := grown_below hg1
  have hz1l : z1.length = la.length + lb.length := by rw [hz1.out]; simp
  have hzd : M.Dig M.NB z1 := by rw [hz1.out]; exact M.Dig.replicate M.NB_pos _
  have hz0 : Hid (∀ j, 0 + lb.length ≤ j → z1.getD j 0 = 0) := fun j _ => by
    rw [hz1.out, List.getD_eq_getElem?_getD, List.getElem?_replicate]
    split <;> rfl
  have hzv : Hid (M.val M.NB z1 = M.val M.NB (la.take 0) * M.val M.NB lb) := by
    show _ = _
    rw [hz1.out, M.val_replicate]
    simp [M.val]
  clear hg1 hs1 hz1
  go_loopw [6] (fun iv wr => ∃ (i : Nat) (y : List Int), i ≤ la.length ∧ iv = .int .i64 i ∧ Own .i64 3 wr w.heap.size y ∧ M.Dig M.NB y ∧ y.length = la.length + lb.length ∧ Hid (∀ j, i + lb.length ≤ j → y.getD j 0 = 0) ∧
      Hid (M.val M.NB y = M.val M.NB (la.take i) * M.val M.NB lb) ∧ Below w.heap.size w wr) (fun iv _ => la.length - (intOf iv).toNat)
  case atStart => exact ⟨0, z1, Nat.zero_le _, rfl, ho1, hzd, hz1l, hz0, hzv, B1⟩
  case round =>
    clear ho1 hzd hz1l hz0 hzv B1
    obtain ⟨i, y, hi, rfl, hy, hyd, hyl, hy0, hv, hg⟩ := hrel
    by_cases hlt : i < la.length
    · obtain ⟨ba, oa, rfl, hca⟩ := A4.out (by rintro rfl; simp at hlt)
      have hba : ba < w.heap.size := World.block_lt_of_cell? w _ (hca i hlt)
      have HX := hide (hca i hlt)
      have hx1 := da.getD M.NB_pos i
      generalize hx : la.getD i 0 = x at *
      have Hx := hide hx
      clear hca hx A4
      have hv0 : Hid (M.val M.NB y + M.NB ^ (i + 0) * 0 = M.val M.NB (la.take i) * M.val M.NB lb + M.NB ^ i * (x * M.val M.NB (lb.take 0))) := by
        show _ = _
        rw [hv.out]
        simp [M.val]
      go_wp2
      go_loopw [7, 8] (fun cv kv wi => ∃ (k : Nat) (c : Int) (z : List Int), k ≤ lb.length ∧ kv = .int .i64 k ∧ cv = .int .i64 c ∧ 0 ≤ c ∧ c < 1000000000 ∧ Own .i64 3 wi w.heap.size z ∧ M.Dig M.NB z ∧ z.length = la.length + lb.length ∧ Hid (∀ j, i + lb.length ≤ j → z.getD j 0 = 0) ∧
          Hid (M.val M.NB z + M.NB ^ (i + k) * c = M.val M.NB (la.take i) * M.val M.NB lb + M.NB ^ i * (x * M.val M.NB (lb.take k))) ∧ Below w.heap.size w wi) (fun _ kv _ => lb.length - (intOf kv).toNat)
      case atStart => exact ⟨0, 0, y, Nat.zero_le _, rfl, rfl, by decide, by decide, hy, hyd, hyl, hy0, hv0, hg⟩
      case round =>
        clear hy hyd hyl hy0 hv hg hv0
        obtain ⟨k, c, z, hk, rfl, rfl, hc0, hc1, hz, hzd, hzl, hz0, hv, hg⟩ := hrel
        rename World => wi
        by_cases hlt2 : k < lb.length
        · obtain ⟨bb, ob, rfl, hcb⟩ := B4.out (by rintro rfl; simp at hlt2)
          have hbb : bb < w.heap.size := World.block_lt_of_cell? w _ (hcb k hlt2)
          have s1 := hz.cell (i + k) (by omega)
          have s2 : wi.cell? ⟨ba, oa + i, none⟩ = some (.int .i64 x) := (hg.cell (p := ⟨ba, oa + i, none⟩) hba).trans HX.out
          have s3 : wi.cell? ⟨bb, ob + k, none⟩ = some (.int .i64 (lb.getD k 0)) := (hg.cell (p := ⟨bb, ob + k, none⟩) hbb).trans (hcb k hlt2)
          have hfz := hz.frozen (i + k)
          have hb1 := db.getD M.NB_pos k
          have hu1 := hzd.getD M.NB_pos (i + k)
          generalize hbk : lb.getD k 0 = b at *
          generalize huk : z.getD (i + k) 0 = u at *
          rw [M.NB_eq] at hx1 hb1 hu1
          obtain ⟨p0, p1, p2, p3⟩ := prod_bd hu1 hx1 hb1 ⟨hc0, hc1⟩
          have HS := hide (rmul_step (by omega) huk hbk hv.out)
          have HZ := hide (set_zeros' (d := (u + x * b + c) % 1000000000) hz0.out (show i + k < i + lb.length by omega))
          have HO := hide (hz.set (i + k) ((u + x * b + c) % 1000000000)).drew
          have HD := hide (hzd.set (i + k) (x := (u + x * b + c) % 1000000000) (by omega) (by rw [M.NB_eq]; omega))
          have HG := hide (hg.then_grown (grown_set wi w.heap.size (i + k) (.int .i64 ((u + x * b + c) % 1000000000))) (by simp)).drew
          have Hl := hide hzl
          have e0 : IntKind.i64.wrap ((i : Int) + k) = (i : Int) + k := by rw [IntKind.wrap_i64]; omega
          have e1 : IntKind.i64.wrap (x * b) = x * b := by rw [IntKind.wrap_i64]; omega
          have e2 : IntKind.i64.wrap (u + x * b) = u + x * b := by rw [IntKind.wrap_i64]; omega
          have e3 : IntKind.i64.wrap (u + x * b + c) = u + x * b + c := by rw [IntKind.wrap_i64]; omega
          clear hbk huk hcb hz hzd hz0 hv
          go_wp2_with fail
          go_region
          all_goals (try go_wp2)
          go_roundw
          case rel => exact ⟨k + 1, (u + x * b + c) / 1000000000, z.set (i + k) ((u + x * b + c) % 1000000000), by omega, by go_num, rfl, by omega, by omega, HO.out, HD.out, by simpa using Hl.out, HZ, HS, HG.out⟩
          case measure => simp [intOf]; omega
        · obtain rfl : k = lb.length := by omega
          rw [List.take_length] at hv
          have s1 := hz.cell (i + lb.length) (by omega)
          have hfz := hz.frozen (i + lb.length)
          have HS := hide (rmul_last (by omega) (hz0.out _ (Nat.le_refl _)) Hx.out hv.out)
          have HO := hide (hz.set (i + lb.length) c)
          have HD := hide (hzd.set (i + lb.length) hc0 (by rw [M.NB_eq]; exact hc1))
          have HG := hide (hg.then_grown (grown_set wi w.heap.size (i + lb.length) (.int .i64 c)) (by simp))
          have HZ : Hid (∀ j, i + 1 + lb.length ≤ j → (z.set (i + lb.length) c).getD j 0 = 0) := fun j hj => set_zeros hz0.out j (by omega)
          have Hl := hide hzl
          rw [hz0.out _ (Nat.le_refl _)] at s1
          have e0 : IntKind.i64.wrap ((i : Int) + lb.length) = (i : Int) + lb.length := by rw [IntKind.wrap_i64]; omega
          clear hz hzd hz0 hv
          go_wp2
          go_roundw
          case rel => exact ⟨i + 1, z.set (i + lb.length) c, by omega, by go_num, HO.out, HD.out, by simpa using Hl.out, HZ, HS, HG.out⟩
          case measure => simp [intOf]; omega
    · obtain rfl : i = la.length := by omega
      rw [List.take_length] at hv
      have RY := hy.all (la.length + lb.length) (by omega) (by omega)
      rw [hyl] at RY
      have q := hide (rtrim_calls wr _ y RY.m)
      clear A4 B4
      go_wp2_with fail
      refine q.out.mono ?_
      rintro e w2 ⟨⟨u, rfl, ru, fu⟩, hw2⟩
      rw [hw2]
      go_wp2
      go_ret
      exact ⟨⟨u, M.trimmed y, rfl, ru, trim_fresh (own_fresh _ _ _) fu, M.trimmed_dig hyd, M.trimmed_trm _, by rw [M.trimmed_val]; exact hv.out⟩, hg⟩
end Go.Proofs.YtlepicdpelkmlaaGreatDoor
/- ==== RefSmall ==== -/
namespace Go.Proofs.YtlepicdpelkmlaaGreatDoor
open Go.RowKit
set_option linter.unusedVariables false
theorem val_two {l : List Int} (h : l.length ≤ 2) : M.val M.NB l = l.getD 1 0 * 1000000000 + l.getD 0 0 := by
  match l, h with
  | [], _ => simp [M.val]
  | [a], _ => simp [M.val]
  | [a, b], _ => simp [M.val, M.NB]; omega
  | a :: b :: c :: t, h => simp at h
set_option maxRecDepth 100000 in
set_option maxHeartbeats 1600000 in
theorem small_calls (w : World) (v : Value) (l : List Int) (h : RowM w v l) (hd : M.Dig M.NB l) :
    Calls Tryz.prog 88 #[v] w fun e w' => e = .returned (.tuple #[.int .i64 (if l.length ≤ 2 then M.val M.NB l else 0), .bool (decide (l.length ≤ 2))]) ∧ w' = w := by
  have q0 := hide (limb_calls w v l 0 h (by decide))
  have q1 := hide (limb_calls w v l 1 h (by decide))
  obtain ⟨ao, cap, rfl, h1, h2, h3, h4⟩ := h
  clear h4
  by_cases hl : l.length ≤ 2
  · rw [if_pos hl, decide_eq_true hl, val_two hl]
    have d0 := hd.getD M.NB_pos 0
    have d1 := hd.getD M.NB_pos 1
    rw [M.NB_eq] at d0 d1
    generalize l.getD 0 0 = x at *
    generalize l.getD 1 0 = y at *
    go_enter Tryz.func88, Tryz.ntmps88
    go_wp2_with fail
    refine q1.out.mono ?_
    rintro e w1 ⟨rfl, hw1⟩
    rw [hw1]
    go_wp2_with fail
    refine q0.out.mono ?_
    rintro e w2 ⟨rfl, hw2⟩
    rw [hw2]
    go_wp2
    refine bodyPost_ret (v := .tuple #[.int .i64 (y * 1000000000 + x), .bool true]) (by simp [results, Tryz.results88, go_sem]) rfl ?_
    exact ⟨rfl, rfl⟩
  · rw [if_neg hl, decide_eq_false hl]
    go_enter Tryz.func88, Tryz.ntmps88
    go_wp2
    refine bodyPost_ret (v := .tuple #[.int .i64 0, .bool false]) (by simp [results, Tryz.results88, go_sem]) rfl ?_
    exact ⟨rfl, rfl⟩
end Go.Proofs.YtlepicdpelkmlaaGreatDoor
/- ==== RefInt ==== -/
namespace Go.Proofs.YtlepicdpelkmlaaGreatDoor
open Go.RowKit
set_option linter.unusedVariables false
/-- A list of ints of one's own. -/
def OwnI (w : World) (B : Nat) (v : Value) (xs : List Int) : Prop := w.ownsRow B 3 1 v xs.length (xs.map (Value.int .i64))
theorem OwnI.row {w : World} {B : Nat} {v : Value} {xs : List Int} (h : OwnI w B v xs) : RowM w v xs ∧ Fresh B v xs := by
  obtain ⟨h1, h2⟩ := h
  rcases h2 with ⟨rfl, h0⟩ | ⟨g, cap, cur, rfl, hB, hg, hn, hm, hs, ht⟩
  · have : xs = [] := List.length_eq_zero_iff.1 h0
    subst this
    exact ⟨⟨none, 0, rfl, by simp, by decide, by simp, fun h => absurd rfl h⟩, fun h => absurd rfl h⟩
  · refine ⟨⟨some ⟨g, 0, none⟩, cap, rfl, hn, by unfold maxLen at hm; omega, by simp, fun _ => ⟨g, 0, rfl, fun j hj => ?_⟩⟩, fun _ a n c e => by simp at e; rw [← e.1]; exact hB⟩
    have e : cur.toList[j]? = some (Value.int .i64 (xs.getD j 0)) := by
      have : (xs.map (Value.int .i64))[j]? = some (Value.int .i64 (xs.getD j 0)) := by
        rw [List.getElem?_map, List.getElem?_eq_getElem hj, List.getD_eq_getElem?_getD, List.getElem?_eq_getElem hj]; rfl
      rw [← ht, List.getElem?_take] at this
      split at this
      · exact this
      · cases this
    rw [Nat.zero_add, cell_of_row w g j cur _ (0, 0) hg]
    simpa using e
/-- The list of digits v of the document's is the number n. -/
def RN (w : World) (v : Value) (n : Nat) : Prop := ∃ l, RowM w v l ∧ M.Dig M.NB l ∧ M.Trm l ∧ M.val M.NB l = (n : Int)
theorem RN.below {w w' : World} {v : Value} {n : Nat} (h : RN w v n) (q : Below w.heap.size w w') : RN w' v n := by
  obtain ⟨l, h1, h2⟩ := h
  exact ⟨l, h1.below q, h2⟩
theorem trm_snoc (l : List Int) {d : Int} (h : d ≠ 0) : M.Trm (l ++ [d]) := fun hne => by simpa using h
theorem dig_snoc {l : List Int} {d : Int} (h : M.Dig M.NB l) (h0 : 0 ≤ d) (h1 : d < M.NB) : M.Dig M.NB (l ++ [d]) := h.append (M.Dig.cons h0 h1 M.Dig.nil)
theorem own_snoc {w : World} {B : Nat} {v : Value} {xs : List Int} {x : Int} (h : w.ownsRow B 3 1 v (xs.length + 1) (xs.map (Value.int .i64) ++ [.int .i64 x])) : OwnI w B v (xs ++ [x]) := by
  unfold OwnI
  simpa using h
/-- One digit of an int. -/
theorem int_step {xs : List Int} {x n : Int} (h : M.val M.NB xs + M.NB ^ xs.length * x = n) : M.val M.NB (xs ++ [x % 1000000000]) + M.NB ^ (xs ++ [x % 1000000000]).length * (x / 1000000000) = n := by
  rw [M.val_append, List.length_append, List.length_singleton, Int.pow_succ, ← h]
  have h2 := Int.mul_ediv_add_emod x 1000000000
  rw [← M.NB_eq] at h2 ⊢
  simp only [M.val]
  generalize x % M.NB = p at *
  generalize x / M.NB = q at *
  generalize M.NB = B at *
  grind
set_option maxRecDepth 100000 in
set_option maxHeartbeats 1600000 in
theorem natInt_calls (w : World) (n : Int) (h0 : 0 ≤ n) (h1 : n < 1000000000000000000) :
    Calls Tryz.prog 47 #[.int .i64 n] w fun e w' => (∃ v, e = .returned v ∧ RN w' v n.toNat) ∧ Below w.heap.size w w' := by
  obtain ⟨i0, hi, hz0, hz1, hz2⟩ := info_parts infoInt
  go_enter Tryz.func47, Tryz.ntmps47
  go_wp2_with (at_make; refine wpList_make_own _ rfl _ _ 75 rfl w.heap.size 3 i0 (.int .i64 0) 1 sliceInt hi hz0 hz1 .i64 .i64 _ 0 rfl rfl (by omega) (by omega) (by unfold maxLen; omega) (Nat.le_refl _) ?_; intro w0 hown0 hgrow0)
  have B0 : Hid (Below w.heap.size w w0) := (Below.refl _ w).grown hgrow0 (Nat.le_refl _) (by simp)
  have O0 : Hid (OwnI w0 w.heap.size (.slice (some ⟨w.heap.size, 0, none⟩) 0 0) []) := hown0
  clear hown0 hgrow0
  go_loopw [0, 3] (fun j u wr => ∃ (x : Int) (xs : List Int), 0 ≤ x ∧ x ≤ n ∧ xs.length ≤ 2 ∧ (xs.length = 1 → x < 1000000000) ∧ (xs.length = 2 → x = 0) ∧ j = .int .i64 x ∧ Hid (M.val M.NB xs + M.NB ^ xs.length * x = n) ∧ Hid (M.Dig M.NB xs) ∧ Hid (x = 0 → M.Trm xs) ∧ Hid (OwnI wr w.heap.size u xs) ∧ Hid (Below w.heap.size w wr)) (fun j _ _ => (intOf j).toNat)
  case atStart => exact ⟨n, [], h0, Int.le_refl _, by simp, by simp, by simp, rfl, by simp [Hid, M.val], M.Dig.nil, fun _ => M.Trm.nil, O0, B0⟩
  case round =>
    clear B0 O0
    obtain ⟨x, xs, hx0, hxn, hl2, hl1, hlz, rfl, hv, hd, ht, hO, hBw⟩ := hrel
    by_cases hpos : 0 < x
    · have hl : xs.length ≤ 1 := by
        by_cases h : xs.length = 2
        · have := hlz h; omega
        · omega
      have hs := hide (int_step hv.out)
      have hd2 := hide (dig_snoc (d := x % 1000000000) hd.out (by omega) (by rw [M.NB_eq]; omega))
      have ht2 : Hid (x / 1000000000 = 0 → M.Trm (xs ++ [x % 1000000000])) := fun h => trm_snoc xs (by omega)
      have hO2 := hO.out
      unfold OwnI at hO2
      replace hO2 := hide hO2
      have hBx := hBw.out.size
      replace hl1 := hide hl1
      replace hlz := hide hlz
      go_wp2_with (at_builtin; (refine wpList_append_own _ rfl _ _ 75 rfl w.heap.size 3 i0 (.int .i64 0) 1 8 sliceInt hi hz0 hz1 hz2 rfl (by decide) _ _ _ rfl (hO2.out.alloc _) ⟨wr.heap.size, 0, none⟩ 1 1 [.int .i64 (x % 1000000000)] rfl rfl (cell_one_new _ _ _) (by simp [Value.oneCell']) (by unfold maxLen; omega) (by omega) (by simp; omega) ?_; intro v' w1 hown' hgrow _; replace hown' := hide hown'; replace hgrow := hide hgrow; have B1 : Hid (Below w.heap.size w w1) := (hBw.out.alloc hBx _).grown hgrow.out (by simp; omega) (fun g hg => ((hO2.out.lt g hg).1))))
      go_roundw
      case rel => exact ⟨x / 1000000000, xs ++ [x % 1000000000], by omega, by omega, by simp; omega, fun h => by omega, fun h => by
        have e1 : xs.length = 1 := by simpa using h
        have e2 := hl1.out e1
        omega, rfl, hs, hd2, ht2, own_snoc hown'.out, B1⟩
      case measure => simp [intOf]; omega
    · obtain rfl : x = 0 := by omega
      have hv2 : Hid (M.val M.NB xs = ((n.toNat : Nat) : Int)) := by have := hv.out; simp only [Hid]; omega
      have hr := hide hO.out.row.1
      have ht2 := hide (ht.out rfl)
      clear ht hl1 hlz
      go_wp2
      go_ret
      exact ⟨⟨_, rfl, xs, hr.out, hd.out, ht2.out, hv2.out⟩, hBw.out⟩
end Go.Proofs.YtlepicdpelkmlaaGreatDoor
/- ==== RefTimes ==== -/
namespace Go.Proofs.YtlepicdpelkmlaaGreatDoor
open Go.RowKit
set_option linter.unusedVariables false
theorem cmp_le {a b : Int} : M.cmp a b ≤ 0 ↔ a ≤ b := by
  rcases Int.lt_trichotomy a b with h | h | h
  · rw [M.cmp_lt h]; omega
  · subst h; rw [show M.cmp a a = 0 by unfold M.cmp; simp]; omega
  · rw [M.cmp_gt h]; omega
theorem RN.len {w : World} {v : Value} {l : List Int} {n K : Nat} (hd : M.Dig M.NB l) (ht : M.Trm l) (hv : M.val M.NB l = (n : Int)) (hn : (n : Int) < M.NB ^ K) : l.length ≤ K :=
  M.length_le_of_lt M.NB_pos hd ht (by rw [hv]; exact hn)
theorem RN.form {w : World} {v : Value} {n : Nat} (h : RN w v n) : ∃ ao k c, v = .slice ao k c ∧ (k = 0 ↔ n = 0) ∧ k ≤ c ∧ c ≤ 9223372036854775807 := by
  obtain ⟨l, ⟨ao, c, e, h1, h2, -⟩, hd, ht, hv⟩ := h
  refine ⟨ao, l.length, c, e, ⟨fun h0 => ?_, fun h0 => ?_⟩, h1, h2⟩
  · have : l = [] := List.length_eq_zero_iff.1 h0
    subst this
    simp [M.val] at hv
    omega
  · subst h0
    rw [M.eq_nil_of_val M.NB_pos hd ht hv]
    rfl
/-- The product of the document's numbers. -/
theorem mulRN (w : World) (va vb : Value) (a b K : Nat) (ha : RN w va a) (hb : RN w vb b) (ka : (a : Int) < M.NB ^ K) (kb : (b : Int) < M.NB ^ K) (hK : K ≤ 17592186044416) :
    Calls Tryz.prog 53 #[va, vb] w fun e w' => (∃ v, e = .returned v ∧ RN w' v (a * b)) ∧ Below w.heap.size w w' := by
  obtain ⟨la, ra, da, ta, va'⟩ := ha
  obtain ⟨lb, rb, db, tb, vb'⟩ := hb
  refine (rnatMul_calls w va vb la lb ra rb da db (Nat.le_trans (RN.len (w := w) (v := va) da ta va' ka) hK) (Nat.le_trans (RN.len (w := w) (v := vb) db tb vb' kb) hK)).mono ?_
  rintro e w' ⟨⟨v, l, h1, h2, h3, h4, h5, h6⟩, h7⟩
  exact ⟨⟨v, h1, l, h2, h4, h5, by rw [h6, va', vb']; simp⟩, h7⟩
theorem cmpRN (w : World) (va vb : Value) (a b : Nat) (ha : RN w va a) (hb : RN w vb b) :
    Calls Tryz.prog 46 #[va, vb] w fun e w' => e = .returned (.int .i64 (M.cmp a b)) ∧ Below w.heap.size w w' := by
  obtain ⟨la, ra, da, ta, va'⟩ := ha
  obtain ⟨lb, rb, db, tb, vb'⟩ := hb
  refine (rnatCmp_calls w va vb la lb ra rb da db ta tb).mono ?_
  rintro e w' ⟨h1, n, rfl⟩
  rw [va', vb'] at h1
  exact ⟨h1, ⟨rfl, rfl, rfl, Nat.le_refl _, fun _ _ => rfl⟩⟩
set_option maxRecDepth 100000 in
set_option maxHeartbeats 3200000 in
theorem times_calls (w : World) (vr vb : Value) (r b K : Nat) (hr : RN w vr r) (hb : RN w vb b) (hlt : r < 1000000000 * b) (kb : (b : Int) < M.NB ^ K) (hK : K ≤ 17592186044416) (hK1 : 1 ≤ K) :
    Calls Tryz.prog 89 #[vr, vb] w fun e w' => e = .returned (.int .i64 (r / b : Nat)) ∧ Below w.heap.size w w' := by
  have HR := hide hr
  have HB := hide hb
  have k1 : Hid (∀ m : Nat, m < 1000000000 → (m : Int) < M.NB ^ K) := fun m hm => by
    have h1 : M.NB ^ 1 ≤ M.NB ^ K := M.pow_le M.NB_pos hK1
    have h2 : M.NB ^ 1 = 1000000000 := by rw [M.NB_eq]; decide
    omega
  have KB := hide kb
  have HLT := hide hlt
  clear hr hb kb hlt
  obtain ⟨lr, rr, -⟩ := HR.out
  obtain ⟨lb, rb, -⟩ := HB.out
  obtain ⟨ar, cr, rfl, -⟩ := rr
  obtain ⟨ab, cb, rfl, -⟩ := rb
  go_enter Tryz.func89, Tryz.ntmps89
  go_wp2
  go_loopw [5, 6] (fun x y wr => ∃ lo hi : Nat, lo ≤ hi ∧ hi < 1000000000 ∧ x = .int .i64 lo ∧ y = .int .i64 hi ∧ Hid (lo * b ≤ r) ∧ Hid (r < (hi + 1) * b) ∧ Hid (Below w.heap.size w wr)) (fun x y _ => (intOf y - intOf x).toNat)
  case atStart => exact ⟨0, 999999999, by omega, by omega, rfl, rfl, by simp [Hid], by have := HLT.out; simp only [Hid]; omega, Below.refl _ _⟩
  case round =>
    obtain ⟨lo, hi, h1, h2, rfl, rfl, hl, hh, hBw⟩ := hrel
    by_cases hlh : lo < hi
    · obtain ⟨mid, hm⟩ : ∃ m, (lo + hi + 1) / 2 = m := ⟨_, rfl⟩
      have hm1 : ((lo : Int) + hi + 1) / 2 = (mid : Int) := by omega
      have hm2 : lo < mid := by omega
      have hm3 : mid ≤ hi := by omega
      replace hm := hide hm
      have q1 := hide (natInt_calls wr (mid : Int) (by omega) (by omega))
      have hBx := hBw.out.size
      by_cases hle : mid * b ≤ r
      · have hc : M.cmp ((b * mid : Nat) : Int) (r : Int) ≤ 0 := cmp_le.2 (by rw [Nat.mul_comm]; omega)
        obtain ⟨c, hceq⟩ : ∃ c, M.cmp ((b * mid : Nat) : Int) (r : Int) = c := ⟨_, rfl⟩
        rw [hceq] at hc
        replace hceq := hide hceq
        have hle2 := hide hle
        clear hle
        go_wp2_with (first
          | (go_at_call 47; refine q1.out.mono ?_; rintro e w1 ⟨⟨v1, rfl, n1⟩, b1⟩; rw [Int.toNat_natCast] at n1; have q2 := hide (mulRN w1 _ _ b mid K (HB.out.below ((hBw.out.mono (Nat.le_refl _)).then_below b1)) n1 KB.out (k1.out mid (by omega)) hK); replace n1 := hide n1; replace b1 := hide b1; have s1 := b1.out.size)
          | (go_at_call 53; refine q2.out.mono ?_; rintro e w2 ⟨⟨v2, rfl, n2⟩, b2⟩; have q3 := hide (cmpRN w2 _ _ _ _ n2 (HR.out.below ((hBw.out.then_below b1.out).then_below b2))); rw [hceq.out] at q3; replace n2 := hide n2; replace b2 := hide b2)
          | (go_at_call 46; refine q3.out.mono ?_; rintro e w3 ⟨rfl, b3⟩; replace b3 := hide b3))
        go_roundw
        case rel => exact ⟨mid, hi, by omega, by omega, rfl, rfl, hle2, hh, ((hBw.out.then_below b1.out).then_below b2.out).then_below b3.out⟩
        case measure => simp [intOf]; omega
      · have hc : 0 < M.cmp ((b * mid : Nat) : Int) (r : Int) := by
          have := (cmp_le (a := ((b * mid : Nat) : Int)) (b := (r : Int)))
          rw [Nat.mul_comm] at this ⊢
          omega
        obtain ⟨c, hceq⟩ : ∃ c, M.cmp ((b * mid : Nat) : Int) (r : Int) = c := ⟨_, rfl⟩
        rw [hceq] at hc
        replace hceq := hide hceq
        have hle2 : Hid (r < (mid - 1 + 1) * b) := by rw [Nat.sub_add_cancel (by omega)]; simp only [Hid]; omega
        clear hle
        go_wp2_with (first
          | (go_at_call 47; refine q1.out.mono ?_; rintro e w1 ⟨⟨v1, rfl, n1⟩, b1⟩; rw [Int.toNat_natCast] at n1; have q2 := hide (mulRN w1 _ _ b mid K (HB.out.below ((hBw.out.mono (Nat.le_refl _)).then_below b1)) n1 KB.out (k1.out mid (by omega)) hK); replace n1 := hide n1; replace b1 := hide b1; have s1 := b1.out.size)
          | (go_at_call 53; refine q2.out.mono ?_; rintro e w2 ⟨⟨v2, rfl, n2⟩, b2⟩; have q3 := hide (cmpRN w2 _ _ _ _ n2 (HR.out.below ((hBw.out.then_below b1.out).then_below b2))); rw [hceq.out] at q3; replace n2 := hide n2; replace b2 := hide b2)
          | (go_at_call 46; refine q3.out.mono ?_; rintro e w3 ⟨rfl, b3⟩; replace b3 := hide b3))
        go_roundw
        case rel => exact ⟨lo, mid - 1, by omega, by omega, rfl, by congr 1; omega, hl, hle2, ((hBw.out.then_below b1.out).then_below b2.out).then_below b3.out⟩
        case measure => simp [intOf]; omega
    · obtain rfl : lo = hi := by omega
      have hf := hide (M.times_fin hl.out hh.out)
      go_wp2
      go_ret
      exact ⟨by rw [hf.out]; rfl, hBw.out⟩
end Go.Proofs.YtlepicdpelkmlaaGreatDoor
